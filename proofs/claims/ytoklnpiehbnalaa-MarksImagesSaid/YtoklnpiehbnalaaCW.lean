/- The reference's Keeps, walked. -/
import Derived.Test.YtoklnpiehbnalaaCV
import Derived.Test.YtoklnpiehbnalaaCG
import Derived.Test.YtoklnpiehbnalaaBI
import Derived.Test.YtoklnpiehbnalaaBW
import Derived.Deep.RegionHeldLaw
namespace Go.Proofs.Ytoklnpiehbnalaa
open Go.RowKit Go.PlainAid
set_option maxHeartbeats 4000000
set_option maxRecDepth 100000
/-- What the reference's Keeps hands back. -/
def rkV (o : Option (List Nat)) : Value := match o with
  | some x => .tuple #[.string (wS x), .bool true]
  | none => .tuple #[.string ⟨#[]⟩, .bool false]
theorem strv_app (a b : List ByteArray) : strv (a ++ b) = strv a ++ strv b := by simp [strv]
theorem refKeeps_any (A : Option Addr) (c : Nat) (ms : List (List Nat)) (w : World) (hm : IsMp ms) (ha : StrsAt w A (ms.map wS)) :
    Calls Try.prog 43 #[.slice A 3 c] w fun e w' => e = .returned (rkV (kpX ms)) ∧ Below w.heap.size w w' := by
  obtain ⟨j0, ji, jz0, jz1, jz2⟩ := info_parts info9
  have HIM : Hid (∀ (x : List Nat) (V : World), Below w.heap.size w V → letW 3 x → x.length ≤ 11 → Calls Try.prog 45 #[.slice A 3 c, .string (wS x)] V fun e w' => e = .returned (.string (wS (imW ms x))) ∧ V = w') := Lib.hid (fun x V hV hx hl => refImage_any A c ms x V hm (ha.below hV) hx (by omega))
  have HFR : Hid (∀ (x : List Nat) (V : World), letW 3 x → x.length ≤ 11 → Calls Try.prog 53 #[.string (wS (imW ms x))] V fun e w' => e = .returned (.bool (!brk ms x)) ∧ Below V.heap.size V w') := Lib.hid (fun x V hx hl => by
    have := refFree_any (imW ms x) V (imW_ok hm hx) (by have := imW_len hm hx; omega)
    unfold brk
    rw [Bool.not_not]
    exact this)
  have HQ : Hid (∀ i, i < QQ.length → letW 3 (QQ.getD i []) ∧ (QQ.getD i []).length ≤ 11) := Lib.hid (fun i hi => by
    have : QQ.getD i [] ∈ QQ := by rw [List.getD_eq_getElem?_getD, List.getElem?_eq_getElem hi]; exact List.getElem_mem hi
    obtain ⟨h1, -, h2⟩ := QQ_mem this
    exact ⟨h1, h2⟩)
  have HW0 : Hid (Wq 0 = [[]]) := Lib.hid rfl
  have HWn : Hid (∀ i, i < QQ.length → (QQ.getD i []).length = 11 → Wq (i + 1) = Wq i) := Lib.hid (fun i hi h => by rw [Wq_next hi]; unfold nxt; rw [if_pos h, List.append_nil])
  have HWy : Hid (∀ i, i < QQ.length → (QQ.getD i []).length ≠ 11 → Wq (i + 1) = Wq i ++ extsTo 3 0 (QQ.getD i []) 3) := Lib.hid (fun i hi h => by rw [Wq_next hi]; unfold nxt; rw [if_neg h])
  have HWl : Hid (∀ i, (Wq i).length ≤ QQ.length) := Lib.hid Wq_len
  have HWg : Hid (∀ i, i < (Wq i).length → i < QQ.length ∧ (Wq i)[i]? = some (QQ.getD i [])) := Lib.hid (fun i h => Wq_get h)
  have HND : Hid (∀ i, ¬ i < (Wq i).length → (∀ j, j < i → brk ms (QQ.getD j []) = false) → rkV (kpX ms) = .tuple #[.string ⟨#[]⟩, .bool false]) := Lib.hid (fun i h1 h2 => by rw [keeps_end h1 h2]; rfl)
  have HHT : Hid (∀ i, i < QQ.length → (∀ j, j < i → brk ms (QQ.getD j []) = false) → brk ms (QQ.getD i []) = true → rkV (kpX ms) = .tuple #[.string (wS (QQ.getD i [])), .bool true]) := Lib.hid (fun i h1 h2 h3 => by rw [keeps_hit hm h1 h2 h3]; rfl)
  have hql := QQ_len
  have HEX : Hid (∀ x c, endS (x ++ [c]) = true → extsTo 3 0 x (c + 1) = extsTo 3 0 x c) := Lib.hid (fun x c h => extsTo_no h)
  have HEY : Hid (∀ x c, endS (x ++ [c]) = false → extsTo 3 0 x (c + 1) = extsTo 3 0 x c ++ [x ++ [c]]) := Lib.hid (fun x c h => extsTo_yes h)
  have HE0 : Hid (∀ x, extsTo 3 0 x 0 = []) := Lib.hid (fun x => rfl)
  have HEL : Hid (∀ x c, c ≤ 3 → (extsTo 3 0 x c).length ≤ 3) := Lib.hid (fun x c hc => by
    have h1 := (extsTo_pre 3 0 x hc).length_le
    have h2 : (extsTo 3 0 x 3).length ≤ 3 := exts_few 1 x
    omega)
  have e0 : strv (([[]] : List (List Nat)).map wS) = [.string ⟨#[]⟩] := by
    rw [show ([[]] : List (List Nat)).map wS = [⟨#[]⟩] from by decide +kernel]; rfl
  have o0 : (w.alloc (.cells #[.string ⟨#[]⟩] 9)).ownsRow w.heap.size 9 1 (.slice (some ⟨w.heap.size, 0, none⟩) (Wq 0).length (Wq 0).length) (Wq 0).length (strv ((Wq 0).map wS)) := by
    rw [HW0.out, e0]
    exact World.ownsRow_lit (base := w.heap.size) (e := 9) (size := 1) w #[.string ⟨#[]⟩] 1 (Nat.le_refl _) (by unfold maxLen; omega) rfl
  have b0 : Below w.heap.size w (w.alloc (.cells #[.string ⟨#[]⟩] 9)) := (Below.refl _ w).alloc (Nat.le_refl _) _
  have H0 : Hid (∀ j, j < 0 → brk ms (QQ.getD j []) = false) := Lib.hid (fun j h => absurd h (by omega))
  have l0 : (Wq 0).length = 1 := by rw [HW0.out]; rfl
  generalize rkV (kpX ms) = R at *
  generalize QQ = Q at *
  generalize Wq = W at *
  clear e0
  go_enter Try.func43, Try.ntmps43
  go_wp2
  go_loopw [4, 5] (fun v u wr => ∃ i : Nat, i ≤ Q.length ∧ u = .int .i64 i ∧ wr.ownsRow w.heap.size 9 1 v (W i).length (strv ((W i).map wS)) ∧ Hid (∀ j, j < i → brk ms (Q.getD j []) = false) ∧ Below w.heap.size w wr) (fun _ u _ => Q.length - (intOf u).toNat)
  case atStart => exact ⟨0, by omega, rfl, by rw [l0] at o0 ⊢; exact o0, H0, b0⟩
  case round =>
    clear o0 b0 H0 l0
    obtain ⟨i, hi, rfl, o0, HB, b0⟩ := hrel
    by_cases hlt : i < (W i).length
    · have g1 : decide ((i : Int) < ((W i).length : Int)) = true := decide_eq_true (by omega)
      have g1' : decide (i < (W i).length) = true := decide_eq_true hlt
      obtain ⟨hq, hwi⟩ := HWg.out i hlt
      obtain ⟨hx, hxl⟩ := HQ.out i hq
      have hwl := HWl.out i
      obtain ⟨A0, c0, rfl⟩ := own_shape1 o0
      obtain ⟨g, cap, hAg, hgB, hgl, hcs⟩ : ∃ g cap, Value.slice A0 (W i).length c0 = .slice (some ⟨g, 0, none⟩) (W i).length cap ∧ w.heap.size ≤ g ∧ g < wr.heap.size ∧ wr.cell? ⟨g, i, none⟩ = some (.string (wS (Q.getD i []))) := by
        rcases o0.2 with ⟨_, h0⟩ | ⟨g, cap, cur, e, hb, hg, _⟩
        · omega
        · injection e with e1 e2 e3
          subst e1 e3
          refine ⟨g, _, rfl, hb, (Array.getElem?_eq_some_iff.1 hg).1, ?_⟩
          have := o0.cells (g := g) rfl i (.string (wS (Q.getD i []))) (by unfold strv; rw [List.getElem?_map, List.getElem?_map, hwi]; rfl)
          rwa [WideShapes.add_plain, Nat.zero_add] at this
      injection hAg with hA1 hA2 hA3
      subst hA1 hA3
      clear hA2
      have HI1 := Lib.hid (fun V (hV : Below w.heap.size w V) => HIM.out (Q.getD i []) V hV hx hxl)
      have HF1 := Lib.hid (fun V => HFR.out (Q.getD i []) V hx hxl)
      have hsz : (wS (Q.getD i [])).size = (Q.getD i []).length := wS_len _
      cases hbr : brk ms (Q.getD i []) with
      | true =>
        have HH := Lib.hid (HHT.out i hq HB.out hbr)
        rw [hbr, Bool.not_true] at HF1
        clear hbr HHT HND HB HWy HWn HWl HWg HQ HIM HFR hwi
        generalize Q.getD i [] = x at *
        generalize wS (imW ms x) = z at *
        generalize wS x = s at *
        have OO := Lib.hid o0
        clear o0
        go_wp2_with (first
          | (go_at_call 45; (with_reducible refine (HI1.out _ b0).mono ?_); rintro e w1 ⟨rfl, rfl⟩)
          | (go_at_call 53; (with_reducible refine (HF1.out _).mono ?_); rintro e w2 ⟨rfl, b2⟩; replace hcs := (b2.cell (p := ⟨g, i, none⟩) hgl).trans hcs; replace b0 := b0.trans (b2.mono b0.size)))
        exact bodyPost_ret (v := .tuple #[.string s, .bool true]) (by simp [results, Try.results43, go_sem]) rfl ⟨by rw [HH.out], b0⟩
      | false =>
        rw [hbr, Bool.not_false] at HF1
        have HB2 : Hid (∀ j, j < i + 1 → brk ms (Q.getD j []) = false) := Lib.hid (fun j hj => by
          rcases Nat.lt_or_ge j i with h | h
          · exact HB.out j h
          · rw [show j = i by omega]; exact hbr)
        clear hbr HHT HND HB HQ HIM HFR
        by_cases h11 : (Q.getD i []).length = 11
        · have g2 : (((wS (Q.getD i [])).size : Int) == 11) = true := by rw [beq_iff_eq]; omega
          have HWN := Lib.hid (HWn.out i hq h11)
          clear HWy HWn HWl HWg hwi h11
          generalize Q.getD i [] = x at *
          generalize wS (imW ms x) = z at *
          generalize wS x = s at *
          have OO := Lib.hid o0
          clear o0
          go_wp2_with (first
            | (go_at_call 45; (with_reducible refine (HI1.out _ b0).mono ?_); rintro e w1 ⟨rfl, rfl⟩)
            | (go_at_call 53; (with_reducible refine (HF1.out _).mono ?_); rintro e w2 ⟨rfl, b2⟩; replace hcs := (b2.cell (p := ⟨g, i, none⟩) hgl).trans hcs; have O2 := Lib.hid (OO.out.kept' b2); replace b0 := b0.trans (b2.mono b0.size)))
          go_roundw
          case rel => exact ⟨i + 1, by omega, by go_num, by rw [HWN.out]; exact O2.out, HB2, b0⟩
          case measure => simp [intOf]; omega
        · have g2 : (((wS (Q.getD i [])).size : Int) == 11) = false := by rw [beq_eq_false_iff_ne]; omega
          have g2' : (((Q.getD i []).length : Int) == 11) = false := by rw [beq_eq_false_iff_ne]; omega
          have HWN := Lib.hid (HWy.out i hq h11)
          have hx4 : okW (Q.getD i []) := fun b hb => by have := hx b hb; omega
          have HEN : Hid (∀ d, d < 3 → ∀ V, Calls Try.prog 66 #[.string (wS (Q.getD i [] ++ [d]))] V fun e w' => e = .returned (.bool (endS (Q.getD i [] ++ [d]))) ∧ ∃ n, w' = V.drewN n) := Lib.hid (fun d hd V => refEnds_any (Q.getD i [] ++ [d]) V (okW_snoc hx4 (by omega)) (by rw [List.length_append, List.length_singleton]; omega))
          have HAD : Hid (∀ d, d < 3 → ∀ w, (Op.stringOp .add (wS (Q.getD i [])) (wS [d])).run Try.prog w = .ok (.string (wS (Q.getD i [] ++ [d]))) w) := Lib.hid (fun d hd w => by
            rw [← wS_app]
            exact run_string_add_sum w _ _ (by rw [wS_len, wS_len, List.length_singleton]; omega))
          have HATi : Hid (∀ d, (W i ++ extsTo 3 0 (Q.getD i []) d)[i]? = some (Q.getD i [])) := Lib.hid (fun d => by rw [List.getElem?_append_left hlt]; exact hwi)
          have HX0 := Lib.hid (HE0.out (Q.getD i []))
          have HX1 := Lib.hid (HEX.out (Q.getD i []))
          have HX2 := Lib.hid (HEY.out (Q.getD i []))
          have HXL := Lib.hid (HEL.out (Q.getD i []))
          have o1 : wr.ownsRow w.heap.size 9 1 (.slice (some ⟨g, 0, none⟩) (W i).length c0) (W i ++ extsTo 3 0 (Q.getD i []) 0).length (strv ((W i ++ extsTo 3 0 (Q.getD i []) 0).map wS)) := by rw [HX0.out, List.append_nil]; exact o0
          clear HWy HWn HWl HWg h11 hx hx4 o0 hwi HE0 HEX HEY HEL
          generalize Q.getD i [] = x at *
          have hl0 : (W i ++ extsTo 3 0 x 0).length = (W i).length := by rw [HX0.out, List.append_nil]
          go_wp2_with (first
            | (go_at_call 45; (with_reducible refine (HI1.out _ b0).mono ?_); rintro e w1 ⟨rfl, rfl⟩)
            | (go_at_call 53; (with_reducible refine (HF1.out _).mono ?_); rintro e w2 ⟨rfl, b2⟩; replace hcs := (b2.cell (p := ⟨g, i, none⟩) hgl).trans hcs; replace o1 := o1.kept' b2; replace b0 := b0.trans (b2.mono b0.size)))
          go_loopw [4, 6] (fun v u wr => ∃ d : Nat, d ≤ 3 ∧ u = .int .i64 d ∧ wr.ownsRow w.heap.size 9 1 v (W i ++ extsTo 3 0 x d).length (strv ((W i ++ extsTo 3 0 x d).map wS)) ∧ Below w.heap.size w wr) (fun _ u _ => 3 - (intOf u).toNat)
          case atStart => exact ⟨0, by omega, rfl, by rw [hl0] at o1 ⊢; exact o1, b0⟩
          case round =>
            clear o1 b0 hcs hgB hgl hl0
            obtain ⟨d, hd, rfl, o1, b0⟩ := hrel
            by_cases hd3 : d < 3
            · have g3 : decide ((d : Int) < 3) = true := decide_eq_true (by omega)
              have hat := HATi.out d
              have hxl3 := HXL.out d hd
              have hEN := HEN.out d hd3
              have hAD := HAD.out d hd3
              obtain ⟨N, hN⟩ : ∃ N, N = (W i ++ extsTo 3 0 x d).length := ⟨_, rfl⟩
              have hNl : N ≤ 3000010 := by rw [hN, List.length_append]; omega
              have hiN : i < N := by rw [hN, List.length_append]; omega
              obtain ⟨A5, c5, rfl⟩ := own_shape1 o1
              rw [← hN] at o1 ⊢
              obtain ⟨g, cap, hAg, hgB, hgl, hcs⟩ : ∃ g cap, Value.slice A5 N c5 = .slice (some ⟨g, 0, none⟩) N cap ∧ w.heap.size ≤ g ∧ g < wr.heap.size ∧ wr.cell? ⟨g, i, none⟩ = some (.string (wS x)) := by
                rcases o1.2 with ⟨_, h0⟩ | ⟨g, cap, cur, e, hb, hg, _⟩
                · omega
                · injection e with e1 e2 e3
                  subst e1 e3
                  refine ⟨g, _, rfl, hb, (Array.getElem?_eq_some_iff.1 hg).1, ?_⟩
                  have := o1.cells (g := g) rfl i (.string (wS x)) (by unfold strv; rw [List.getElem?_map, List.getElem?_map, hat]; rfl)
                  rwa [WideShapes.add_plain, Nat.zero_add] at this
              injection hAg with hA1 hA2 hA3
              subst hA1 hA3
              clear hA2
              have h97 : IntKind.i64.wrap (97 + (d : Int)) = 97 + (d : Int) := IntWalk.i64_in _ (by omega)
              have hw1 : IntKind.u8.wrap (97 + (d : Int)) = 97 + d := by simp [IntKind.wrap, IntKind.bits, IntKind.signed]; omega
              have hw2 : (97 + (d : Int)) % 256 = 97 + d := by omega
              have hcv : (convert 71 9 (.slice (some ⟨wr.heap.size, 0, none⟩) 1 1)).run Try.prog ((wr.alloc (.cells #[.int .u8 (97 + (d : Int))] 5)).drew) = .ok (.string (wS [d])) ((wr.alloc (.cells #[.int .u8 (97 + (d : Int))] 5)).drew) := conv_one (row_new rfl).drew
              have KS : Hid (∀ V, Below wr.heap.size wr V → V.cell? ⟨g, i, none⟩ = some (.string (wS x))) := Lib.hid (fun V hV => (hV.cell (p := ⟨g, i, none⟩) hgl).trans hcs)
              have hbs := b0.size
              have b3 : Below wr.heap.size wr ((wr.alloc (.cells #[.int .u8 (97 + (d : Int))] 5)).drew) := ((Below.refl _ wr).alloc (Nat.le_refl _) _).drew
              have o3 := o1.kept' b3
              have hX1 := HX1.out d
              have hX2 := HX2.out d
              have HN := Lib.hid hN
              clear hat hN
              cases he : endS (x ++ [d]) with
              | true =>
                have HX := Lib.hid (hX1 he)
                rw [he] at hEN
                have HEN1 := Lib.hid hEN
                clear he hX1 hX2 hEN HX0 HX1 HX2 HXL HEN HAD HATi
                generalize wS (x ++ [d]) = t at *
                generalize wS [d] = z at *
                generalize wS x = s at *
                have OO := Lib.hid o3
                clear o1 o3
                go_wp2
                go_region_held_law (fun w' => w'.cell? ⟨g, i, none⟩ = some (.string s)) (first | assumption | exact KS.out _ (by repeat (first | exact Below.refl _ _ | (refine Below.drew ?_) | (refine Below.alloc ?_ (by first | exact Nat.le_refl _ | (simp; done) | (simp; omega)) _)))) (fail)
                have b4 := b0.trans (b3.mono hbs)
                generalize World.drew (World.alloc wr _) = W3 at *
                go_wp2_with (go_at_call 66; (with_reducible refine (HEN1.out _).mono ?_); rintro e _ ⟨rfl, nd, rfl⟩)
                go_roundw
                case rel =>
                  refine ⟨d + 1, by omega, by go_num, ?_, b4.trans (below_drewN nd)⟩
                  rw [HX.out, ← HN.out]
                  exact OO.out.kept' (below_drewN nd)
                case measure => simp [intOf]; omega
              | false =>
                have HX := Lib.hid (hX2 he)
                rw [he] at hEN
                have HEN1 := Lib.hid hEN
                clear he hX1 hX2 hEN HX0 HX1 HX2 HXL HEN HAD HATi
                obtain ⟨t, ht⟩ : ∃ t, wS (x ++ [d]) = t := ⟨_, rfl⟩
                have HT := Lib.hid ht
                rw [ht] at hAD HEN1
                clear ht
                generalize wS [d] = z at *
                generalize wS x = s at *
                have OO := Lib.hid o3
                clear o1 o3
                go_wp2
                go_region_held_law (fun w' => w'.cell? ⟨g, i, none⟩ = some (.string s)) (first | assumption | exact KS.out _ (by repeat (first | exact Below.refl _ _ | (refine Below.drew ?_) | (refine Below.alloc ?_ (by first | exact Nat.le_refl _ | (simp; done) | (simp; omega)) _)))) (fail)
                have b4 := b0.trans (b3.mono hbs)
                generalize World.drew (World.alloc wr _) = W3 at *
                go_wp2_with (first
                  | (go_at_call 66; (with_reducible refine (HEN1.out _).mono ?_); rintro e _ ⟨rfl, nd, rfl⟩; have O4 := Lib.hid (OO.out.kept' (below_drewN nd)); replace b4 := b4.trans (below_drewN nd); generalize World.drewN W3 nd = W4 at *; have hb4 := b4.size; have hnr : Row (W4.alloc (.cells #[.string t] 9)) W4.heap.size 9 [.string t] := row_new rfl)
                  | ((with_reducible refine (?_ : wpList _ _ _ (Oper.mk (some 53) _ _ _ _ _ :: _) _ _)); refine wpList_append_own_at _ rfl _ _ 55 rfl w.heap.size 9 j0 (.string ⟨#[]⟩) 1 16 Try.underlying55 ji jz0 jz1 jz2 rfl (by decide) _ _ _ rfl (O4.out.alloc _) ⟨W4.heap.size, 0, none⟩ 1 1 [.string t] rfl rfl (news_one hnr) (by simp [Value.oneCell']) (by unfold maxLen; omega) (by omega) (by simp; omega) ?_; intro v5 w5 o5 hg5 _ _; have b5 := b4.trans (app1' O4.out hb4 hg5)))
                go_roundw
                case rel =>
                  refine ⟨d + 1, by omega, by go_num, ?_, b5⟩
                  rw [HX.out, ← List.append_assoc, List.length_append, ← HN.out, List.map_append, strv_app, List.map_singleton, HT.out]
                  exact o5
                case measure => simp [intOf]; omega
            · obtain rfl : d = 3 := by omega
              have g3 : decide (((3 : Nat) : Int) < 3) = false := decide_eq_false (by omega)
              obtain ⟨A4, c4, rfl⟩ := own_shape1 o1
              clear HX0 HX1 HX2 HXL HEN HAD HATi
              go_wp2
              go_roundw
              case rel => exact ⟨i + 1, by omega, by go_num, by rw [HWN.out]; exact o1, HB2, b0⟩
              case measure => simp [intOf]; omega
    · have g1 : decide ((i : Int) < ((W i).length : Int)) = false := decide_eq_false (by omega)
      have g1' : decide (i < (W i).length) = false := decide_eq_false hlt
      have HH := Lib.hid (HND.out i hlt HB.out)
      obtain ⟨A4, c4, rfl⟩ := own_shape1 o0
      clear HHT HND HB HWy HWn HWl HWg HQ HIM HFR HEX HEY HE0 HEL
      go_wp2
      exact bodyPost_ret (v := .tuple #[.string ⟨#[]⟩, .bool false]) (by simp [results, Try.results43, go_sem]) rfl ⟨by rw [HH.out], b0⟩
end Go.Proofs.Ytoklnpiehbnalaa
