/- Short rows; the members of a set. -/
import Derived.Test.YtnnaaoobdofooaaSP
namespace Go.Proofs.Ytnnaaoobdofooaa
open Go.RowKit
set_option maxHeartbeats 1000000
set_option maxRecDepth 100000
/-- The members of a set below a number, in ascending order. -/
def lsS (s : Nat) : Nat → List Int
  | 0 => []
  | k + 1 => if s.testBit k = true then lsS s k ++ [(k : Int)] else lsS s k
theorem lsS_len (s : Nat) : ∀ k, (lsS s k).length ≤ k
  | 0 => by simp [lsS]
  | k + 1 => by
    have := lsS_len s k
    unfold lsS
    split
    · rw [List.length_append, List.length_singleton]; omega
    · omega
theorem list57_any (s : Nat) (w : World) (hs : s < 65536) :
    Calls Try.prog 57 #[.int .u16 s] w fun e w' => ∃ v, e = .returned v ∧ w'.ownsRow w.heap.size 3 1 v (lsS s 10).length (iv (lsS s 10)) ∧ Below w.heap.size w w' := by
  obtain ⟨j0, ji, jz0, jz1, jz2⟩ := info_parts info3
  have HS : Hid (∀ k, lsS s (k + 1) = if s.testBit k = true then lsS s k ++ [(k : Int)] else lsS s k) := Lib.hid (fun k => rfl)
  have HL := Lib.hid (lsS_len s)
  have o0 : w.ownsRow w.heap.size 3 1 (.slice none 0 0) (lsS s 0).length (iv (lsS s 0)) := ⟨rfl, .inl ⟨rfl, rfl⟩⟩
  have b0 := Below.refl w.heap.size w
  go_enter Try.func57, Try.ntmps57
  go_wp2
  go_loopw [3, 5] (fun v i wr => ∃ k : Nat, k ≤ 10 ∧ i = .int .i64 k ∧ wr.ownsRow w.heap.size 3 1 v (lsS s k).length (iv (lsS s k)) ∧ Below w.heap.size w wr) (fun _ i _ => 10 - (intOf i).toNat)
  case atStart => exact ⟨0, by omega, rfl, o0, b0⟩
  case round =>
    clear o0 b0
    obtain ⟨k, hk, rfl, o0, b0⟩ := hrel
    obtain ⟨A2, c2, rfl, -, -, -⟩ := own_intsI o0
    by_cases hlt : k < 10
    · have g1 : decide ((k : Int) < 10) = true := decide_eq_true (by omega)
      have HH := Lib.hid (has_any s k wr hs (by omega))
      have HS1 := Lib.hid (HS.out k)
      have hl := HL.out k
      have hbs := b0.size
      unfold sHas at HH
      generalize lsS s k = X at *
      cases hb : s.testBit k
      · rw [hb] at HH HS1
        simp only [Bool.false_eq_true, if_false] at HS1
        clear hb
        have HO := Lib.hid o0
        clear o0
        go_wp2_with (go_at_call 66; refine HH.out.mono ?_; rintro e w1 ⟨rfl, rfl⟩)
        go_roundw
        case rel => exact ⟨k + 1, by omega, by go_num, by rw [HS1.out]; exact HO.out, b0⟩
        case measure => simp [intOf]; omega
      · rw [hb] at HH HS1
        simp only [if_true] at HS1
        clear hb
        have hnr : Row (wr.alloc (.cells #[.int .i64 (k : Int)] 3)) wr.heap.size 3 [.int .i64 (k : Int)] := row_new rfl
        go_wp2_with (first
          | (go_at_call 66; refine HH.out.mono ?_; rintro e w1 ⟨rfl, rfl⟩)
          | (at_builtin; refine wpList_append_own_at _ rfl _ _ 27 rfl w.heap.size 3 j0 (.int .i64 0) 1 8 Try.underlying27 ji jz0 jz1 jz2 rfl (by decide) _ _ _ rfl (o0.alloc _) ⟨wr.heap.size, 0, none⟩ 1 1 [.int .i64 (k : Int)] rfl rfl (news_one hnr) (by simp [Value.oneCell']) (by unfold maxLen; omega) (by omega) (by simp; omega) ?_; intro v2 w2 o2 hg2 _ _; have b4 := b0.trans (app1' o0 hbs hg2)))
        go_roundw
        case rel => exact ⟨k + 1, by omega, by go_num, by rw [HS1.out, List.length_append, List.length_singleton, iv_snoc]; exact o2, b4⟩
        case measure => simp [intOf]; omega
    · have hk10 : Hid (k = 10) := Lib.hid (by omega)
      have g1 : decide ((k : Int) < 10) = false := decide_eq_false (by omega)
      go_wp2
      go_ret
      exact ⟨_, rfl, by rw [← hk10.out]; exact o0, b0⟩
/-- The rows that are short, when so many columns have been seen. -/
def shR (n : Nat) (M : List Int) (st : Nat) : Nat → Nat
  | 0 => sAll n
  | k + 1 => if ¬ geti M k = -1 ∧ st.testBit k = false then sWithout (shR n M st k) (geti M k).toNat else shR n M st k
theorem shR_lt {n : Nat} (hn : n ≤ 10) (M : List Int) (st : Nat) : ∀ k, shR n M st k < 65536
  | 0 => all_lt (by omega)
  | k + 1 => by
    unfold shR
    split
    · exact without_lt (shR_lt hn M st k)
    · exact shR_lt hn M st k
theorem jc_range {W : World} {g n : Nat} {M : List Int} {st : Nat} (h : Row W g 87 (jc n M st)) : W.rangeAt g 1 (iv M) := fun j v hj => by
  have hl := (List.getElem?_eq_some_iff.1 hj).1
  rw [h.cell]
  unfold jc
  rw [Nat.add_comm, List.getElem?_cons_succ, List.getElem?_append_left hl, hj]
theorem short_any (n : Nat) (M : List Int) (st : Nat) (w : World) (hn : n ≤ 10) (hM : MOk n M) (hs : st < 65536) :
    Calls Try.prog 56 #[.agg (jc n M st).toArray] w fun e w' => e = .returned (.int .u16 (shR n M st 10)) ∧ Below w.heap.size w w' := by
  have hMl := hM.len
  have r0 : Row (w.alloc (.cells (jc n M st).toArray 87)) w.heap.size 87 (jc n M st) := row_new rfl
  have b0 : Below w.heap.size w (w.alloc (.cells (jc n M st).toArray 87)) := by (repeat (first | exact Below.refl _ _ | assumption | (refine Below.setCell ?_ (by first | exact Nat.le_refl _ | omega | (simp; done) | (simp; omega)) _) | (refine Below.trans ?_ (below_drewN _)) | (refine Below.drew ?_) | (refine Below.alloc ?_ (by first | exact Nat.le_refl _ | omega | (simp; done) | (simp; omega)) _) | (refine below_row ?_ (by first | exact Nat.le_refl _ | omega | (simp; done) | (simp; omega)) _)))
  have c0 : (w.alloc (.cells (jc n M st).toArray 87)).cell? ⟨w.heap.size, 0, none⟩ = some (.int .i64 (n : Int)) := by rw [r0.cell]; rfl
  have c1 : (w.alloc (.cells (jc n M st).toArray 87)).cell? ⟨w.heap.size, 11, none⟩ = some (.int .u16 st) := by rw [r0.cell, jc_st hMl]
  have hrg := jc_range r0
  have hi7 : (Try.prog.info? 70).map (·.size) = some (iv M).length := by rw [iv_len, hMl]; exact info70
  have HIX := Lib.hid (fun (c : Nat) (hc : c < 10) (w : World) => run_index70 M hMl c hc w)
  have HMA := Lib.hid (fun c (hc : c < 10) => hM.at' c hc)
  have HSL := Lib.hid (fun k => shR_lt hn M st k)
  have HSS : Hid (∀ k, shR n M st (k + 1) = if ¬ geti M k = -1 ∧ st.testBit k = false then sWithout (shR n M st k) (geti M k).toNat else shR n M st k) := Lib.hid (fun k => rfl)
  have HS0 : Hid (shR n M st 0 = sAll n) := Lib.hid rfl
  have HF := Lib.hid (fun w => first_any n w (by omega))
  clear hM
  go_enter Try.func56, Try.ntmps56
  go_wp2_with (first
    | (go_at_call 50; refine (HF.out _).mono ?_; rintro e w1 ⟨rfl, rfl⟩)
    | (with_reducible refine (?_ : wpList _ _ _ (Oper.mk _ (Op.load 70 _) _ _ _ _ :: _) _ _); refine wpList_load_mid rfl 70 _ rfl w.heap.size 1 rfl (iv M) _ hrg Try.underlying70 rfl hi7 ?_))
  generalize World.alloc w _ = W at *
  clear hrg hi7 r0 c0
  go_loopw [3, 11] (fun sv i wr => ∃ k : Nat, k ≤ 10 ∧ i = .int .i64 k ∧ sv = .int .u16 (shR n M st k) ∧ W = wr) (fun _ i _ => 10 - (intOf i).toNat)
  case atStart => exact ⟨0, by omega, rfl, by rw [HS0.out], rfl⟩
  case round =>
    clear HS0
    obtain ⟨k, hk, rfl, rfl, rfl⟩ := hrel
    by_cases hlt : k < 10
    · have g1 : decide ((k : Int) < 10) = true := decide_eq_true (by omega)
      have hix := fun w => HIX.out k hlt w
      have HH := Lib.hid (has_any st k W hs (by omega))
      have hsl := HSL.out k
      have hma := HMA.out k hlt
      have HS1 := Lib.hid (HSS.out k)
      unfold sHas at HH
      generalize shR n M st k = s at *
      generalize geti M k = z at *
      by_cases hz : z = -1
      · have g2 : (z != -1) = false := by simp [hz]
        have hS := HS1.out
        rw [if_neg (fun h => h.1 hz)] at hS
        have HS2 := Lib.hid hS
        clear hz hma hS HS1
        go_wp2
        go_roundw
        case rel => exact ⟨k + 1, by omega, by go_num, by rw [HS2.out], by first | rfl | trivial⟩
        case measure => simp [intOf]; omega
      · have g2 : (z != -1) = true := by simp [hz]
        obtain ⟨r, rfl⟩ : ∃ r : Nat, z = r := ⟨z.toNat, by omega⟩
        cases hb : st.testBit k
        · have hS := HS1.out
          rw [if_pos ⟨hz, hb⟩, Int.toNat_natCast] at hS
          have HW := Lib.hid (without_any s r W hsl (by omega))
          rw [← hS] at HW
          rw [hb] at HH
          clear hz hma hS HS1 hb
          go_wp2_with (first
            | (go_at_call 66; refine HH.out.mono ?_; rintro e w1 ⟨rfl, rfl⟩)
            | (go_at_call 67; refine HW.out.mono ?_; rintro e w1 ⟨rfl, rfl⟩))
          go_roundw
          case rel => exact ⟨k + 1, by omega, by go_num, rfl, by first | rfl | trivial⟩
          case measure => simp [intOf]; omega
        · have hS := HS1.out
          rw [if_neg (fun h => by rw [hb] at h; cases h.2)] at hS
          have HS2 := Lib.hid hS
          rw [hb] at HH
          clear hz hma hS HS1 hb
          go_wp2_with (go_at_call 66; refine HH.out.mono ?_; rintro e w1 ⟨rfl, rfl⟩)
          go_roundw
          case rel => exact ⟨k + 1, by omega, by go_num, by rw [HS2.out], by first | rfl | trivial⟩
          case measure => simp [intOf]; omega
    · have hk10 : Hid (k = 10) := Lib.hid (by omega)
      have g1 : decide ((k : Int) < 10) = false := decide_eq_false (by omega)
      go_wp2
      go_ret
      exact ⟨by rw [hk10.out]; rfl, b0⟩
end Go.Proofs.Ytnnaaoobdofooaa
