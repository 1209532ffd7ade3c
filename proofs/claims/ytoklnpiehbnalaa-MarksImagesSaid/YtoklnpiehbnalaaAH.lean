/- The reference's periods; the beginning of a string that is looked at; a part of a string read. -/
import Derived.Test.YtoklnpiehbnalaaAG
namespace Go.Proofs.Ytoklnpiehbnalaa
open Go.RowKit Go.PlainAid
set_option maxHeartbeats 1000000
set_option maxRecDepth 100000
theorem refPeriods_any (x : List Nat) (w : World) (hx : okW x) (hl : x.length ≤ 10000) :
    Calls Try.prog 28 #[.string (wS x)] w (NewL w (perL x)) := by
  obtain ⟨j0, ji, jz0, jz1, jz2⟩ := info_parts info3
  have HP : Hid (∀ p, p ≤ x.length → (((wS x).extract p x.length).toList == ((wS x).extract 0 (x.length - p)).toList) = perP x p) := Lib.hid (fun p _ => by
    rw [wS_extract, wS_extract, wS_beq (okW_sub hx _ _) (okW_sub hx _ _)]; rfl)
  have HY := Lib.hid (fun k => @perW_yes x k)
  have HN := Lib.hid (fun k => @perW_no x k)
  have HL : Hid (∀ p, (perW x p).length ≤ p - 1) := Lib.hid (fun p => perU_len x (p - 1))
  have HR : Hid (perL x = perW x (x.length + 1)) := Lib.hid rfl
  have hz := wS_len x
  have b0 := Below.refl w.heap.size w
  have o0 : w.ownsRow w.heap.size 3 1 (.slice none 0 0) (perW x 1).length (iv (perW x 1)) := ⟨rfl, .inl ⟨rfl, rfl⟩⟩
  obtain ⟨N, hN⟩ : ∃ N, x.length = N := ⟨_, rfl⟩
  rw [hN] at hz hl HP HR
  generalize wS x = s at *
  subst hz
  clear hN hx
  go_enter Try.func28, Try.ntmps28
  go_wp2
  go_loopw [3, 4] (fun v i wr => ∃ k : Nat, i = .int .i64 k ∧ 1 ≤ k ∧ k ≤ s.size + 1 ∧ wr.ownsRow w.heap.size 3 1 v (perW x k).length (iv (perW x k)) ∧ Below w.heap.size w wr) (fun _ i _ => s.size + 1 - (intOf i).toNat)
  case atStart => exact ⟨1, rfl, by omega, by omega, o0, b0⟩
  case round =>
    clear o0 b0
    obtain ⟨k, rfl, hk1, hk, o0, b0⟩ := hrel
    by_cases hlt : k ≤ s.size
    · have g2 : decide (k ≤ s.size) = true := decide_eq_true (by omega)
      have HP1 := Lib.hid (HP.out k hlt)
      have HY1 := Lib.hid (HY.out k hk1)
      have HN1 := Lib.hid (HN.out k hk1)
      have hpl := HL.out k
      cases hb : perP x k
      · have HE := Lib.hid (HN1.out hb)
        rw [hb] at HP1
        clear HP HY HN HL HY1 HN1 hb hpl
        have hp1 := HP1.out
        go_wp2
        go_quiet (fail)
        go_wp2
        go_roundw
        case rel => exact ⟨k + 1, by go_num, by omega, by omega, by rw [HE.out]; exact o0.kept' (below_drewN nq), b0.trans (below_drewN nq)⟩
        case measure => simp [intOf]; omega
      · have HE := Lib.hid (HY1.out hb)
        rw [hb] at HP1
        clear HP HY HN HL HY1 HN1 hb
        obtain ⟨A2, c2, rfl⟩ := own_shape o0
        generalize perW x k = X at *
        have hp1 := HP1.out
        go_wp2
        go_quiet (fail)
        replace o0 := o0.kept' (below_drewN nq)
        replace b0 := b0.trans (below_drewN nq)
        generalize World.drewN _ nq = w3 at *
        have hbs := b0.size
        have hnr : Row (w3.alloc (.cells #[.int .i64 (k : Int)] 3)) w3.heap.size 3 [.int .i64 (k : Int)] := row_new rfl
        go_wp2_with ((with_reducible refine (?_ : wpList _ _ _ (Oper.mk (some 24) _ _ _ _ _ :: _) _ _)); refine wpList_append_own_at _ rfl _ _ 26 rfl w.heap.size 3 j0 (.int .i64 0) 1 8 Try.underlying26 ji jz0 jz1 jz2 rfl (by decide) _ _ _ rfl (o0.alloc _) ⟨w3.heap.size, 0, none⟩ 1 1 [.int .i64 (k : Int)] rfl rfl (news_one hnr) (by simp [Value.oneCell']) (by unfold maxLen; omega) (by omega) (by simp; omega) ?_; intro v2 w4 o2 hg2 _ _; have b4 := app1' o0 hbs hg2)
        go_roundw
        case rel =>
          refine ⟨k + 1, by go_num, by omega, by omega, ?_, b0.trans b4⟩
          rw [HE.out, List.length_append, List.length_singleton, iv_snoc]
          exact o2
        case measure => simp [intOf]; omega
    · have HK : Hid (k = s.size + 1) := Lib.hid (by omega)
      have g2 : decide (k ≤ s.size) = false := decide_eq_false (by omega)
      obtain ⟨A2, c2, rfl⟩ := own_shape o0
      rw [HK.out, ← HR.out] at o0
      have HO := Lib.hid o0
      obtain ⟨l, hll⟩ : ∃ l, (perW x k).length = l := ⟨_, rfl⟩
      have HLL : Hid (l = (perL x).length) := Lib.hid (by rw [← hll, HR.out, HK.out])
      rw [hll]
      clear HP HY HN HL o0 hll hlt hk
      go_wp2
      go_ret
      refine ⟨_, rfl, ?_, b0⟩
      rw [HLL.out]
      exact HO.out
theorem short_any (s : ByteArray) (w : World) (hs : s.size ≤ 9223372036854775807) :
    Calls Try.prog 19 #[.string s] w fun e w' => e = .returned (.string (s.extract 0 (min s.size 121))) ∧ Below w.heap.size w w' := by
  have HE : Hid (s.extract 0 s.size = s) := Lib.hid (by
    apply ba_ext
    rw [ba_extract, List.drop_zero, List.take_of_length_le (by rw [ds_len]; omega)])
  by_cases h : s.size ≤ 121
  · have e1 : (s.size : Int) ≤ 121 := by omega
    have e2 : Hid (min s.size 121 = s.size) := Lib.hid (by omega)
    go_enter Try.func19, Try.ntmps19
    go_wp2
    go_ret
    exact ⟨by rw [e2.out, HE.out]; rfl, Below.refl _ _⟩
  · have e1 : ¬ (s.size : Int) ≤ 121 := by omega
    have e2 : Hid (min s.size 121 = 121) := Lib.hid (by omega)
    have e3 : 121 ≤ s.size := by omega
    go_enter Try.func19, Try.ntmps19
    go_wp2
    go_ret
    exact ⟨by first | rfl | (rw [e2.out]; rfl), Below.refl _ _⟩
/-- The beginning of a string that is looked at. -/
def shB (s : ByteArray) : ByteArray := s.extract 0 (min s.size 121)
theorem shB_len (s : ByteArray) : (shB s).size ≤ 121 := by
  unfold shB; rw [ByteArray.size_extract]; omega
/-- A letter of a string is one of the first k. -/
def goodK (k : Nat) (s : ByteArray) (i : Nat) : Bool := !decide (bt s i < 97) && !decide ((k : Int) ≤ bt s i - 97)
def ltK (k : Nat) (s : ByteArray) : Bool := (List.range s.size).all (goodK k s)
theorem goodK_iff (k : Nat) (s : ByteArray) (i : Nat) : goodK k s i = true ↔ 97 ≤ bt s i ∧ bt s i < 97 + k := by
  unfold goodK; simp; omega
theorem ltK_iff (k : Nat) (s : ByteArray) : ltK k s = true ↔ ∀ i, i < s.size → 97 ≤ bt s i ∧ bt s i < 97 + k := by
  unfold ltK
  rw [List.all_eq_true]
  exact ⟨fun h i hi => (goodK_iff k s i).1 (h i (List.mem_range.2 hi)), fun h i hi => (goodK_iff k s i).2 (h i (List.mem_range.1 hi))⟩
theorem goodK_four (s : ByteArray) (i : Nat) : goodK 4 s i = goodB s i := by
  rw [Bool.eq_iff_iff, goodK_iff, goodB_iff]; omega
theorem refLetters_any (s : ByteArray) (k : Nat) (w : World) (hs : s.size ≤ 100000) (_hk : k ≤ 100) :
    Calls Try.prog 44 #[.string s, .int .i64 k] w fun e w' => e = .returned (.bool (ltK k s)) ∧ w = w' := by
  have hb := get_bt s
  have HNO : Hid (∀ j, j < s.size → goodK k s j = false → ltK k s = false) := Lib.hid (fun j hj h => by
    rw [Bool.eq_false_iff]
    intro ha
    unfold ltK at ha
    rw [List.all_eq_true] at ha
    rw [ha j (List.mem_range.2 hj)] at h
    cases h)
  have HYES : Hid ((∀ j, j < s.size → goodK k s j = true) → ltK k s = true) := Lib.hid (fun h => by
    unfold ltK
    rw [List.all_eq_true]
    exact fun j hj => h j (List.mem_range.1 hj))
  have HG0 : Hid (∀ i, i < 0 → goodK k s i = true) := Lib.hid (fun i hi => absurd hi (Nat.not_lt_zero i))
  generalize ltK k s = R at *
  go_enter Try.func44, Try.ntmps44
  go_wp2
  go_loopw [5] (fun i wr => ∃ j : Nat, i = .int .i64 j ∧ j ≤ s.size ∧ wr = w ∧ Hid (∀ i, i < j → goodK k s i = true)) (fun i _ => s.size - (intOf i).toNat)
  case atStart => exact ⟨0, rfl, by omega, rfl, HG0⟩
  case round =>
    clear HG0
    obtain ⟨j, rfl, hj, rfl, HG⟩ := hrel
    by_cases hlt : j < s.size
    · have g1 : decide (j < s.size) = true := decide_eq_true hlt
      have hbj := hb j hlt
      have hb1 := bt_nonneg s j
      have hb2 := bt_le s j
      have HN1 := Lib.hid (HNO.out j hlt)
      have HGA : Hid (goodK k s j = (!decide (bt s j < 97) && !decide ((k : Int) ≤ bt s j - 97))) := Lib.hid rfl
      have HGK : Hid (goodK k s j = true → ∀ i, i < j + 1 → goodK k s i = true) := Lib.hid (fun hg i hi => by
        rcases Nat.lt_or_ge i j with h | h
        · exact HG.out i h
        · rw [show i = j by omega]; exact hg)
      obtain ⟨x, hx⟩ : ∃ x, bt s j = x := ⟨_, rfl⟩
      rw [hx] at hbj HGA hb1 hb2
      clear hx hb HNO HYES
      by_cases h1 : x < 97
      · have g2 : decide (x < 97) = true := decide_eq_true h1
        have hno := Lib.hid (HN1.out (by rw [HGA.out, g2]; rfl))
        clear HN1 HGA HGK HG h1
        go_wp2
        go_ret
        exact ⟨ret_bool hno.out.symm, rfl⟩
      · have g2 : decide (x < 97) = false := decide_eq_false h1
        have hx0 : 97 ≤ x := by omega
        have hw1 : IntKind.u8.wrap (x - 97) = x - 97 := by simp [IntKind.wrap, IntKind.bits, IntKind.signed]; omega
        have hw2 : (x - 97) % 256 = x - 97 := by omega
        by_cases h2 : (k : Int) ≤ x - 97
        · have g3 : decide ((k : Int) ≤ x - 97) = true := decide_eq_true h2
          have hno := Lib.hid (HN1.out (by rw [HGA.out, g2, g3]; rfl))
          clear HN1 HGA HGK HG h1 h2
          go_wp2
          go_ret
          exact ⟨ret_bool hno.out.symm, rfl⟩
        · have g3 : decide ((k : Int) ≤ x - 97) = false := decide_eq_false h2
          have HG2 := Lib.hid (HGK.out (by rw [HGA.out, g2, g3]; rfl))
          clear HN1 HGA HGK HG h1 h2
          go_wp2
          go_roundw
          case rel => exact ⟨j + 1, by go_num, by omega, by first | rfl | trivial, HG2⟩
          case measure => simp [intOf]; omega
    · obtain rfl : j = s.size := by omega
      have g1 : decide (s.size < s.size) = false := decide_eq_false hlt
      have hy := Lib.hid (HYES.out HG.out)
      clear HNO HYES HG hb
      go_wp2
      go_ret
      exact ⟨ret_bool hy.out.symm, rfl⟩
theorem refWord_any (s : ByteArray) (w : World) (hs : s.size ≤ 100000) :
    Calls Try.prog 23 #[.string s] w fun e w' => e = .returned (.bool (okB s)) ∧ w = w' := by
  have HL : Hid (∀ V, Calls Try.prog 44 #[.string s, .int .i64 4] V fun e w' => e = .returned (.bool (ltK 4 s)) ∧ V = w') := Lib.hid (fun V => refLetters_any s 4 V hs (by omega))
  have HE : Hid (ltK 4 s = (List.range s.size).all (goodB s)) := Lib.hid (by
    unfold ltK
    rw [show goodK 4 s = goodB s from funext (goodK_four s)])
  have HO : Hid (okB s = (decide (s.size ≤ 120) && (List.range s.size).all (goodB s))) := Lib.hid rfl
  rw [HE.out] at HL
  clear HE
  generalize (List.range s.size).all (goodB s) = R at *
  by_cases h : s.size ≤ 120
  · have g1 : decide ((s.size : Int) ≤ 120) = true := decide_eq_true (by omega)
    rw [decide_eq_true h, Bool.true_and] at HO
    clear h
    go_enter Try.func23, Try.ntmps23
    go_wp2_with (go_at_call 44; (with_reducible refine (HL.out _).mono ?_); rintro e w2 ⟨rfl, rfl⟩)
    go_ret
    exact ⟨ret_bool HO.out.symm, rfl⟩
  · have g1 : decide ((s.size : Int) ≤ 120) = false := decide_eq_false (by omega)
    rw [decide_eq_false h, Bool.false_and] at HO
    clear h
    go_enter Try.func23, Try.ntmps23
    go_wp2
    go_ret
    exact ⟨ret_bool HO.out.symm, rfl⟩
end Go.Proofs.Ytoklnpiehbnalaa
