/- Maps of words of four letters made from any strings. -/
import Derived.Test.YtoklnpiehbnalaaBW
namespace Go.Proofs.Ytoklnpiehbnalaa
open Go.RowKit Go.Shelf Go.PlainAid
set_option maxHeartbeats 2000000
set_option maxRecDepth 100000
/-- The i-th word of the map made of strings. -/
def gN (ss : List ByteArray) (i : Nat) : List Nat := if i < ss.length then (if tmW 4 12 (gets ss i) = [] then [0] else tmW 4 12 (gets ss i)) else [0]
def gQ (ss : List ByteArray) (j : Nat) : List ByteArray := (List.range j).map fun i => wS (gN ss i)
theorem gQ_succ (ss : List ByteArray) (j : Nat) : gQ ss (j + 1) = gQ ss j ++ [wS (gN ss j)] := by simp [gQ, List.range_succ]
theorem gQ_len (ss : List ByteArray) (j : Nat) : (gQ ss j).length = j := by simp [gQ]
def gNs (ss : List ByteArray) : List (List Nat) := (List.range 3).map (gN ss)
theorem gQ_all (ss : List ByteArray) : gQ ss 3 = (gNs ss).map wS := by simp [gQ, gNs]
theorem gN_ok (ss : List ByteArray) (i : Nat) : (∀ b, b ∈ gN ss i → b < 4) ∧ 1 ≤ (gN ss i).length ∧ (gN ss i).length ≤ 12 := by
  have hl := tmW_len 4 12 (gets ss i)
  have hk := tmW_ok (k := 4) (by decide) 12 (gets ss i)
  have h0 : (∀ b, b ∈ [0] → b < 4) ∧ 1 ≤ ([0] : List Nat).length ∧ ([0] : List Nat).length ≤ 12 := ⟨fun b hb => by simp at hb; omega, by decide, by decide⟩
  unfold gN
  split
  · split
    · exact h0
    · rename_i h
      refine ⟨hk, ?_, hl⟩
      cases hh : tmW 4 12 (gets ss i) with
      | nil => exact absurd hh h
      | cons a L => simp
  · exact h0
theorem gNs_mem {ss : List ByteArray} {m : List Nat} (hm : m ∈ gNs ss) : (∀ b, b ∈ m → b < 4) ∧ 1 ≤ m.length ∧ m.length ≤ 12 := by
  unfold gNs at hm
  obtain ⟨i, _, rfl⟩ := List.mem_map.1 hm
  exact gN_ok ss i
theorem gNs_map (ss : List ByteArray) : IsMp (gNs ss) := ⟨by simp [gNs], fun m hm b hb => by have := (gNs_mem hm).1 b hb; omega, fun m hm => (gNs_mem hm).2.1, fun m hm => (gNs_mem hm).2.2⟩
theorem maps4_any (A : Option Addr) (c : Nat) (ss : List ByteArray) (w : World) (hl : ss.length ≤ 9223372036854775807) (hs : ∀ i, (gets ss i).size ≤ 9223372036854775807) (ha : StrsAt w A ss) :
    Calls Try.prog 52 #[.slice A ss.length c, .int .i64 4] w fun e w' => ∃ v, e = .returned v ∧ w'.ownsRow w.heap.size 9 1 v 3 (strv ((gNs ss).map wS)) ∧ Below w.heap.size w w' := by
  obtain ⟨j0, ji, jz0, jz1, jz2⟩ := info_parts info9
  have o0 : w.ownsRow w.heap.size 9 1 (.slice none 0 0) 0 (strv (gQ ss 0)) := ⟨rfl, .inl ⟨rfl, rfl⟩⟩
  have b0 := Below.refl w.heap.size w
  have HT : Hid (∀ j, ∀ V, Calls Try.prog 48 #[.string (gets ss j), .int .i64 12, .int .i64 4] V fun e w' => e = .returned (.string (wS (tmW 4 12 (gets ss j)))) ∧ Below V.heap.size V w') := Lib.hid (fun j V => tame_any 4 12 (gets ss j) V (by decide) (by decide) (hs j) (by decide))
  have HG1 : Hid (∀ j, j < ss.length → tmW 4 12 (gets ss j) = [] → wS (gN ss j) = ⟨#[97]⟩) := Lib.hid (fun j h1 h2 => by unfold gN; rw [if_pos h1, if_pos h2, a_lit])
  have HG2 : Hid (∀ j, j < ss.length → tmW 4 12 (gets ss j) ≠ [] → gN ss j = tmW 4 12 (gets ss j)) := Lib.hid (fun j h1 h2 => by unfold gN; rw [if_pos h1, if_neg h2])
  have HG3 : Hid (∀ j, ¬ j < ss.length → wS (gN ss j) = ⟨#[97]⟩) := Lib.hid (fun j h1 => by unfold gN; rw [if_neg h1, a_lit])
  have HPS := Lib.hid (gQ_succ ss)
  have HP3 : Hid (gQ ss 3 = (gNs ss).map wS) := Lib.hid (gQ_all ss)
  have HA : Hid (∀ V, Below w.heap.size w V → StrsAt V A ss) := Lib.hid (fun V hV => ha.below hV)
  have HNE := Lib.hid nil_emptyS
  have HLE : Hid (∀ x : List Nat, x ≠ [] → (wS x).toList.isEmpty = false) := Lib.hid (fun x hx => not_emptyS (by cases x with | nil => exact absurd rfl hx | cons a L => simp))
  clear hs ha
  generalize (gNs ss).map wS = R at *
  generalize hn : ss.length = n at *
  go_enter Try.func52, Try.ntmps52
  go_wp2
  go_loopw [5, 6] (fun v i wr => ∃ j : Nat, i = .int .i64 j ∧ j ≤ 3 ∧ wr.ownsRow w.heap.size 9 1 v j (strv (gQ ss j)) ∧ Below w.heap.size w wr) (fun _ i _ => 3 - (intOf i).toNat)
  case atStart => exact ⟨0, rfl, by omega, o0, b0⟩
  case round =>
    clear o0 b0
    obtain ⟨j, rfl, hj, o0, b0⟩ := hrel
    by_cases hlt : j < 3
    · have g1 : decide ((j : Int) < 3) = true := decide_eq_true (by omega)
      have HPS1 := Lib.hid (HPS.out j)
      obtain ⟨A2, c2, rfl⟩ := own_shape1 o0
      have hbs := b0.size
      by_cases h1 : j < n
      · have g2 : decide (j < n) = true := decide_eq_true h1
        obtain ⟨bA, oA, hAe, hbA, hcA⟩ := (HA.out wr b0) (by omega)
        have hc1 := hcA j (by omega)
        have HT1 := Lib.hid (HT.out j)
        have HG11 := Lib.hid (HG1.out j h1)
        have HG21 := Lib.hid (HG2.out j h1)
        clear hcA HT HG1 HG2 HG3 HPS HP3 HA
        subst hAe
        generalize tmW 4 12 (gets ss j) = x at *
        generalize gets ss j = s at *
        by_cases hx : x = []
        · have HU := Lib.hid (HG11.out hx)
          subst hx
          have hne : (wS ([] : List Nat)).toList.isEmpty = true := HNE.out
          clear HG11 HG21
          rw [HU.out] at HPS1
          go_wp2_with (first
            | (go_at_call 48; (with_reducible refine (HT1.out _).mono ?_); rintro e w1 ⟨rfl, b1⟩; replace o0 := o0.kept' b1; replace b0 := b0.trans (b1.mono b0.size); have hbs1 := b0.size; have hnr : Row (w1.alloc (.cells #[.string ⟨#[97]⟩] 9)) w1.heap.size 9 [.string ⟨#[97]⟩] := row_new rfl)
            | ((with_reducible refine (?_ : wpList _ _ _ (Oper.mk (some 27) _ _ _ _ _ :: _) _ _)); refine wpList_append_own_at _ rfl _ _ 55 rfl w.heap.size 9 j0 (.string ⟨#[]⟩) 1 16 Try.underlying55 ji jz0 jz1 jz2 rfl (by decide) _ _ _ rfl (o0.alloc _) ⟨w1.heap.size, 0, none⟩ 1 1 [.string ⟨#[97]⟩] rfl rfl (news_one hnr) (by simp [Value.oneCell']) (by unfold maxLen; omega) (by omega) (by simp; omega) ?_; intro v2 w2 o2 hg2 _ _; have b4 := b0.trans (app1' o0 hbs1 hg2)))
          go_roundw
          case rel => exact ⟨j + 1, by go_num, by omega, by rw [HPS1.out, strv_snoc]; exact o2, b4⟩
          case measure => simp [intOf]; omega
        · have HU := Lib.hid (HG21.out hx)
          have hne := HLE.out x hx
          clear HG11 HG21
          rw [HU.out] at HPS1
          go_wp2_with (first
            | (go_at_call 48; (with_reducible refine (HT1.out _).mono ?_); rintro e w1 ⟨rfl, b1⟩; replace o0 := o0.kept' b1; replace b0 := b0.trans (b1.mono b0.size); have hbs1 := b0.size; have hnr : Row (w1.alloc (.cells #[.string (wS x)] 9)) w1.heap.size 9 [.string (wS x)] := row_new rfl)
            | ((with_reducible refine (?_ : wpList _ _ _ (Oper.mk (some 27) _ _ _ _ _ :: _) _ _)); refine wpList_append_own_at _ rfl _ _ 55 rfl w.heap.size 9 j0 (.string ⟨#[]⟩) 1 16 Try.underlying55 ji jz0 jz1 jz2 rfl (by decide) _ _ _ rfl (o0.alloc _) ⟨w1.heap.size, 0, none⟩ 1 1 [.string (wS x)] rfl rfl (news_one hnr) (by simp [Value.oneCell']) (by unfold maxLen; omega) (by omega) (by simp; omega) ?_; intro v2 w2 o2 hg2 _ _; have b4 := b0.trans (app1' o0 hbs1 hg2)))
          go_roundw
          case rel => exact ⟨j + 1, by go_num, by omega, by rw [HPS1.out, strv_snoc]; exact o2, b4⟩
          case measure => simp [intOf]; omega
      · have g2 : decide (j < n) = false := decide_eq_false h1
        have HU := Lib.hid (HG3.out j h1)
        clear HT HG1 HG2 HG3 HPS HP3 HA
        rw [HU.out] at HPS1
        have hnr : Row (wr.alloc (.cells #[.string ⟨#[97]⟩] 9)) wr.heap.size 9 [.string ⟨#[97]⟩] := row_new rfl
        go_wp2_with ((with_reducible refine (?_ : wpList _ _ _ (Oper.mk (some 27) _ _ _ _ _ :: _) _ _)); refine wpList_append_own_at _ rfl _ _ 55 rfl w.heap.size 9 j0 (.string ⟨#[]⟩) 1 16 Try.underlying55 ji jz0 jz1 jz2 rfl (by decide) _ _ _ rfl (o0.alloc _) ⟨wr.heap.size, 0, none⟩ 1 1 [.string ⟨#[97]⟩] rfl rfl (news_one hnr) (by simp [Value.oneCell']) (by unfold maxLen; omega) (by omega) (by simp; omega) ?_; intro v2 w2 o2 hg2 _ _; have b4 := b0.trans (app1' o0 hbs hg2))
        go_roundw
        case rel => exact ⟨j + 1, by go_num, by omega, by rw [HPS1.out, strv_snoc]; exact o2, b4⟩
        case measure => simp [intOf]; omega
    · obtain rfl : j = 3 := by omega
      have g1 : decide (((3 : Nat) : Int) < 3) = false := decide_eq_false (by omega)
      obtain ⟨A2, c2, rfl⟩ := own_shape1 o0
      clear HT HG1 HG2 HG3 HPS HA
      go_wp2
      go_ret
      exact ⟨_, rfl, by rw [← HP3.out]; exact o0, b0⟩
end Go.Proofs.Ytoklnpiehbnalaa
