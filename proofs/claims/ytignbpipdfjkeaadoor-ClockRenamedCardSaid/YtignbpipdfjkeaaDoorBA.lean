/- The reference's lists of sets and their sizes. -/
import Derived.Test.YtignbpipdfjkeaaDoorAZ
namespace Go.Proofs.YtignbpipdfjkeaaDoor
open Go.RowKit
set_option maxHeartbeats 1000000
set_option maxRecDepth 100000
/-- The states of a set below k. -/
def lsF (s k : Nat) : List Int := ((List.range k).filter fun q => s.testBit q).map fun q : Nat => (q : Int)
/-- The states of a set. -/
def lsI (s : Nat) : List Int := (bitsS s).map fun q : Nat => (q : Int)
theorem lsF_step (s k : Nat) : lsF s (k + 1) = if s.testBit k = true then lsF s k ++ [(k : Int)] else lsF s k := by
  unfold lsF
  rw [List.range_succ, List.filter_append, List.map_append]
  cases h : s.testBit k <;> simp [h]
theorem lsF_len (s k : Nat) : (lsF s k).length ≤ k := by
  unfold lsF; rw [List.length_map]; have := List.length_filter_le (fun q => s.testBit q) (List.range k); simpa using this
theorem lsF_end {s k : Nat} (hs : s < 2 ^ k) (hk : k ≤ 9) : lsF s k = lsI s := by
  unfold lsF lsI bitsS
  congr 1
  obtain ⟨d, hd⟩ : ∃ d, 9 = k + d := ⟨9 - k, by omega⟩
  rw [hd, List.range_add, List.filter_append]
  have : ((List.range d).map (k + ·)).filter (fun q => s.testBit q) = [] := by
    rw [List.filter_eq_nil_iff]
    intro q hq
    obtain ⟨j, _, rfl⟩ := List.mem_map.1 hq
    rw [Nat.testBit_lt_two_pow (Nat.lt_of_lt_of_le hs (Nat.pow_le_pow_right (by decide) (by omega)))]
    decide
  rw [this, List.append_nil]
theorem lsI_len (s : Nat) : (lsI s).length = szS s := by simp [lsI, szS]
theorem refList_any (s : Nat) (w : World) (hs : s < 512) : Calls Tryd.prog 27 #[.int .i64 s] w (NewL w (lsI s)) := by
  obtain ⟨j0, ji, jz0, jz1, jz2⟩ := info_parts info3
  have HS := Lib.hid (lsF_step s)
  have HL := Lib.hid (lsF_len s)
  have HE : Hid (∀ k, s / 2 ^ k = 0 → k ≤ 9 → lsF s k = lsI s) := Lib.hid (fun k h hk => lsF_end (by
    have := Nat.two_pow_pos k
    exact (Nat.div_eq_zero_iff_lt this).1 h) hk)
  have HN : Hid (∀ k, s / 2 ^ k ≠ 0 → k < 9) := Lib.hid (fun k h => by
    rcases Nat.lt_or_ge k 9 with h1 | h1
    · exact h1
    · exact absurd (Nat.div_eq_of_lt (Nat.lt_of_lt_of_le hs (Nat.pow_le_pow_right (n := 2) (by decide) h1))) h)
  have o0 : w.ownsRow w.heap.size 3 1 (.slice none 0 0) (lsF s 0).length (iv (lsF s 0)) := ⟨rfl, .inl ⟨rfl, rfl⟩⟩
  have b0 := Below.refl w.heap.size w
  generalize lsI s = Z at *
  go_enter Tryd.func27, Tryd.ntmps27
  go_wp2
  go_loopw [3, 4] (fun v i wr => ∃ k : Nat, k ≤ 9 ∧ i = .int .i64 k ∧ wr.ownsRow w.heap.size 3 1 v (lsF s k).length (iv (lsF s k)) ∧ Below w.heap.size w wr) (fun _ i _ => 10 - (intOf i).toNat)
  case atStart => exact ⟨0, by omega, rfl, o0, b0⟩
  case round =>
    clear o0 b0
    obtain ⟨k, hk, rfl, o0, b0⟩ := hrel
    obtain ⟨A2, c2, rfl, -, -, -⟩ := own_intsI o0
    have hdv : ((s : Int) / (2 : Int) ^ k) = ((s / 2 ^ k : Nat) : Int) := by rw [pow_cast]; rfl
    by_cases hz : s / 2 ^ k = 0
    · have g1 : decide ((0 : Int) < (s : Int) / (2 : Int) ^ k) = false := by rw [hdv, hz]; rfl
      rw [HE.out k hz hk] at o0 ⊢
      clear hdv hz
      go_wp2
      go_ret
      exact ⟨_, rfl, o0, b0⟩
    · have g1 : decide ((0 : Int) < (s : Int) / (2 : Int) ^ k) = true := by rw [hdv]; generalize s / 2 ^ k = d at hz; exact decide_eq_true (by omega)
      have hk9 := HN.out k hz
      have HB := bit_tmod1 s k
      have HS1 := Lib.hid (HS.out k)
      have hl := HL.out k
      have hbs := b0.size
      clear hdv hz
      generalize lsF s k = X at *
      cases hb : s.testBit k
      · rw [hb] at HB HS1
        have HS2 : Hid (lsF s (k + 1) = X) := HS1
        have HO := Lib.hid o0
        clear hb HS1 o0
        go_wp2
        go_roundw
        case rel => exact ⟨k + 1, by omega, by go_num, by rw [HS2.out]; exact HO.out, b0⟩
        case measure => simp [intOf]; omega
      · rw [hb] at HB HS1
        have HS2 : Hid (lsF s (k + 1) = X ++ [(k : Int)]) := HS1
        clear hb HS1
        have hnr : Row (wr.alloc (.cells #[.int .i64 (k : Int)] 3)) wr.heap.size 3 [.int .i64 (k : Int)] := row_new rfl
        go_wp2_with (at_builtin; refine wpList_append_own_at _ rfl _ _ 29 rfl w.heap.size 3 j0 (.int .i64 0) 1 8 Tryd.underlying29 ji jz0 jz1 jz2 rfl (by decide) _ _ _ rfl (o0.alloc _) ⟨wr.heap.size, 0, none⟩ 1 1 [.int .i64 (k : Int)] rfl rfl (news_one hnr) (by simp [Value.oneCell']) (by unfold maxLen; omega) (by omega) (by simp; omega) ?_; intro v2 w2 o2 hg2 _ _; have b4 := b0.trans (app1' o0 hbs hg2))
        go_roundw
        case rel => exact ⟨k + 1, by omega, by go_num, by rw [HS2.out, List.length_append, List.length_singleton, iv_snoc]; exact o2, b4⟩
        case measure => simp [intOf]; omega
theorem refSize_any (s : Nat) (w : World) (hs : s < 512) : Calls Tryd.prog 45 #[.int .i64 s] w fun e w' => e = .returned (.int .i64 (szS s)) ∧ Below w.heap.size w w' := by
  have HL := Lib.hid (fun w => refList_any s w hs)
  have hl := Lib.hid (lsI_len s)
  have b0 := Below.refl w.heap.size w
  go_enter Tryd.func45, Tryd.ntmps45
  go_wp2_with (go_at_call 27; refine (HL.out _).mono ?_; rintro e w2 ⟨v, rfl, o2, b2⟩; obtain ⟨A2, c2, rfl, -, -, -⟩ := own_intsI o2; rw [hl.out])
  go_ret
  exact ⟨rfl, b2⟩
end Go.Proofs.YtignbpipdfjkeaaDoor
