/- Slices of strings: what comes in, and the maps made of them. -/
import Derived.Test.YtoklnpiehbnalaaAV
import Derived.Test.YtoklnpiehbnalaaBA
import Derived.Test.YtoklnpiehbnalaaBL
import Derived.Deep.Strs
namespace Go.Proofs.Ytoklnpiehbnalaa
open Go.ChangeShapes Go.WideShapes Go.ChangeAt Go.RowKit Go.Deep
set_option maxHeartbeats 2000000
set_option maxRecDepth 100000
section
variable {H : Type} {enc : TypeId × Value → H} {W : World}
theorem open_strL {r : Reach} {b0 : Nat} {v : Value} {d : DataW H} {p : List MemPlace} (hv : Value.okWide Try.prog W r b0 55 v) (h : DataW.Trod enc Try.prog W 0 (fun _ => true) true 55 v d p) :
    ∃ A c ss, v = .slice A ss.length c ∧ ss.length ≤ c ∧ c ≤ maxLen ∧ (∀ i, (gets ss i).size ≤ maxLen) ∧ StrsAt W A ss := by
  obtain ⟨A, l, c, rfl⟩ := okWide_slice Try.underlying55 hv
  obtain ⟨fuel, hf⟩ := h
  rcases open_strs Try.underlying55 Try.underlying9 (by kernel_rfl) hf with ⟨hcs, _⟩ | ⟨a, len, cap, m, Sx, hcs, _, hl, hm, hmm, _, hcell⟩
  · simp [Value.cells] at hcs
    obtain ⟨rfl, rfl, rfl⟩ := hcs
    exact ⟨none, 0, [], rfl, by simp, by simp, fun i => (by unfold gets; exact Nat.zero_le _), fun h => absurd h (by simp)⟩
  · simp [Value.cells] at hcs
    obtain ⟨rfl, rfl, rfl⟩ := hcs
    simp only [if_true] at hmm
    subst hmm
    have hlen : ((List.range l).map Sx).length = l := by simp
    have hg : ∀ i, i < l → gets ((List.range l).map Sx) i = Sx i := fun i hi => by
      unfold gets
      rw [List.getD_eq_getElem?_getD, List.getElem?_map, List.getElem?_range hi]; rfl
    refine ⟨some a, m, (List.range l).map Sx, by rw [hlen], by omega, hm, fun i => ?_, fun hp => ?_⟩
    · rcases Nat.lt_or_ge i l with h1 | h1
      · rw [hg i h1]; exact (hcell i (by omega)).2
      · unfold gets
        rw [List.getD_eq_getElem?_getD, List.getElem?_eq_none (by rw [hlen]; exact h1)]
        exact Nat.zero_le _
    rw [hlen] at hp ⊢
    have g0 := (hcell 0 (by omega)).1
    have hsp : a.spot = none := by
      have := World.cell?_spot g0
      simpa [Addr.add] using this
    obtain ⟨b, o, sp⟩ := a
    dsimp only at hsp
    subst hsp
    refine ⟨b, o, rfl, by have := cell_lt g0; simpa [Addr.add] using this, fun i hi => ?_⟩
    have := (hcell i (by omega)).1
    rw [WideShapes.add_plain] at this
    rw [this, hg i hi]
end
def strv (ss : List ByteArray) : List Value := ss.map Value.string
theorem strv_len (ss : List ByteArray) : (strv ss).length = ss.length := by simp [strv]
theorem strv_snoc (ss : List ByteArray) (s : ByteArray) : strv (ss ++ [s]) = strv ss ++ [.string s] := by simp [strv]
theorem own_strs {w : World} {b n : Nat} {v : Value} {ss : List ByteArray} (h : w.ownsRow b 9 1 v n (strv ss)) : ∃ A c, v = .slice A ss.length c ∧ n = ss.length ∧ ss.length ≤ c ∧ StrsAt w A ss := by
  have hl : ss.length = n := by have := h.1; rw [strv_len] at this; omega
  subst hl
  rcases h.2 with ⟨rfl, h0⟩ | ⟨g, cap, cur, rfl, hb, hg, hc, _, hs, ht⟩
  · exact ⟨none, 0, by rw [h0], rfl, by omega, fun hp => by omega⟩
  · refine ⟨_, cap, rfl, rfl, hc, fun hp => ⟨g, 0, rfl, (Array.getElem?_eq_some_iff.1 hg).1, fun i hi => ?_⟩⟩
    have := h.cells (g := g) rfl i (.string (gets ss i)) (by unfold strv gets; rw [List.getElem?_map, List.getD_eq_getElem?_getD, List.getElem?_eq_getElem hi]; rfl)
    rw [WideShapes.add_plain] at this
    exact this
theorem info9 : (Try.prog.info? 9).map (fun i => (i.zero, i.size, i.bytes)) = some (some (.string ⟨#[]⟩), 1, 16) := by kernel_rfl
/-- The i-th word of the map made of strings. -/
def gM (ss : List ByteArray) (i : Nat) : List Nat := if i < ss.length then (if tmW 3 12 (gets ss i) = [] then [0] else tmW 3 12 (gets ss i)) else [0]
def gP (ss : List ByteArray) (j : Nat) : List ByteArray := (List.range j).map fun i => wS (gM ss i)
theorem gP_succ (ss : List ByteArray) (j : Nat) : gP ss (j + 1) = gP ss j ++ [wS (gM ss j)] := by simp [gP, List.range_succ]
theorem gP_len (ss : List ByteArray) (j : Nat) : (gP ss j).length = j := by simp [gP]
def gMs (ss : List ByteArray) : List (List Nat) := (List.range 3).map (gM ss)
theorem gP_all (ss : List ByteArray) : gP ss 3 = (gMs ss).map wS := by simp [gP, gMs]
theorem gM_ok (ss : List ByteArray) (i : Nat) : (∀ b, b ∈ gM ss i → b < 3) ∧ 1 ≤ (gM ss i).length ∧ (gM ss i).length ≤ 12 := by
  have hl := tmW_len 3 12 (gets ss i)
  have hk := tmW_ok (k := 3) (by decide) 12 (gets ss i)
  have h0 : (∀ b, b ∈ [0] → b < 3) ∧ 1 ≤ ([0] : List Nat).length ∧ ([0] : List Nat).length ≤ 12 := ⟨fun b hb => by simp at hb; omega, by decide, by decide⟩
  unfold gM
  split
  · split
    · exact h0
    · rename_i h
      refine ⟨hk, ?_, hl⟩
      cases hh : tmW 3 12 (gets ss i) with
      | nil => exact absurd hh h
      | cons a L => simp
  · exact h0
theorem gMs_mem {ss : List ByteArray} {m : List Nat} (hm : m ∈ gMs ss) : (∀ b, b ∈ m → b < 3) ∧ 1 ≤ m.length ∧ m.length ≤ 12 := by
  unfold gMs at hm
  obtain ⟨i, _, rfl⟩ := List.mem_map.1 hm
  exact gM_ok ss i
theorem gMs_map (ss : List ByteArray) : IsMp (gMs ss) := ⟨by simp [gMs], fun m hm b hb => by have := (gMs_mem hm).1 b hb; omega, fun m hm => (gMs_mem hm).2.1, fun m hm => (gMs_mem hm).2.2⟩
theorem a_lit : wS [0] = ⟨#[97]⟩ := by decide +kernel
theorem nil_emptyS : (⟨#[]⟩ : ByteArray).toList.isEmpty = true := by rw [ba_list]; rfl
theorem not_emptyS {x : List Nat} (h1 : 1 ≤ x.length) : (wS x).toList.isEmpty = false := by
  rw [ba_list, wS_data]
  cases x with
  | nil => simp at h1
  | cons a L => rfl
theorem maps_any (A : Option Addr) (c : Nat) (ss : List ByteArray) (w : World) (hl : ss.length ≤ 9223372036854775807) (hs : ∀ i, (gets ss i).size ≤ 9223372036854775807) (ha : StrsAt w A ss) :
    Calls Try.prog 52 #[.slice A ss.length c, .int .i64 3] w fun e w' => ∃ v, e = .returned v ∧ w'.ownsRow w.heap.size 9 1 v 3 (strv ((gMs ss).map wS)) ∧ Below w.heap.size w w' := by
  obtain ⟨j0, ji, jz0, jz1, jz2⟩ := info_parts info9
  have o0 : w.ownsRow w.heap.size 9 1 (.slice none 0 0) 0 (strv (gP ss 0)) := ⟨rfl, .inl ⟨rfl, rfl⟩⟩
  have b0 := Below.refl w.heap.size w
  have HT : Hid (∀ j, ∀ V, Calls Try.prog 48 #[.string (gets ss j), .int .i64 12, .int .i64 3] V fun e w' => e = .returned (.string (wS (tmW 3 12 (gets ss j)))) ∧ Below V.heap.size V w') := Lib.hid (fun j V => tame_any 3 12 (gets ss j) V (by decide) (by decide) (hs j) (by decide))
  have HG1 : Hid (∀ j, j < ss.length → tmW 3 12 (gets ss j) = [] → wS (gM ss j) = ⟨#[97]⟩) := Lib.hid (fun j h1 h2 => by unfold gM; rw [if_pos h1, if_pos h2, a_lit])
  have HG2 : Hid (∀ j, j < ss.length → tmW 3 12 (gets ss j) ≠ [] → gM ss j = tmW 3 12 (gets ss j)) := Lib.hid (fun j h1 h2 => by unfold gM; rw [if_pos h1, if_neg h2])
  have HG3 : Hid (∀ j, ¬ j < ss.length → wS (gM ss j) = ⟨#[97]⟩) := Lib.hid (fun j h1 => by unfold gM; rw [if_neg h1, a_lit])
  have HPS := Lib.hid (gP_succ ss)
  have HP3 : Hid (gP ss 3 = (gMs ss).map wS) := Lib.hid (gP_all ss)
  have HA : Hid (∀ V, Below w.heap.size w V → StrsAt V A ss) := Lib.hid (fun V hV => ha.below hV)
  have HNE := Lib.hid nil_emptyS
  have HLE : Hid (∀ x : List Nat, x ≠ [] → (wS x).toList.isEmpty = false) := Lib.hid (fun x hx => not_emptyS (by cases x with | nil => exact absurd rfl hx | cons a L => simp))
  clear hs ha
  generalize (gMs ss).map wS = R at *
  generalize hn : ss.length = n at *
  go_enter Try.func52, Try.ntmps52
  go_wp2
  go_loopw [5, 6] (fun v i wr => ∃ j : Nat, i = .int .i64 j ∧ j ≤ 3 ∧ wr.ownsRow w.heap.size 9 1 v j (strv (gP ss j)) ∧ Below w.heap.size w wr) (fun _ i _ => 3 - (intOf i).toNat)
  case atStart => exact ⟨0, rfl, by omega, o0, b0⟩
  case round =>
    clear o0 b0
    obtain ⟨j, rfl, hj, o0, b0⟩ := hrel
    by_cases hlt : j < 3
    · have g1 : decide ((j : Int) < 3) = true := decide_eq_true (by omega)
      have HPS1 := Lib.hid (HPS.out j)
      obtain ⟨A2, c2, rfl⟩ := own_shape1 o0
      have hbs := b0.size
      by_cases h1 : j < n
      · have g2 : decide (j < n) = true := decide_eq_true h1
        obtain ⟨bA, oA, hAe, hbA, hcA⟩ := (HA.out wr b0) (by omega)
        have hc1 := hcA j (by omega)
        have HT1 := Lib.hid (HT.out j)
        have HG11 := Lib.hid (HG1.out j h1)
        have HG21 := Lib.hid (HG2.out j h1)
        clear hcA HT HG1 HG2 HG3 HPS HP3 HA
        subst hAe
        generalize tmW 3 12 (gets ss j) = x at *
        generalize gets ss j = s at *
        by_cases hx : x = []
        · have HU := Lib.hid (HG11.out hx)
          subst hx
          have hne : (wS ([] : List Nat)).toList.isEmpty = true := HNE.out
          clear HG11 HG21
          rw [HU.out] at HPS1
          go_wp2_with (first
            | (go_at_call 48; (with_reducible refine (HT1.out _).mono ?_); rintro e w1 ⟨rfl, b1⟩; replace o0 := o0.kept' b1; replace b0 := b0.trans (b1.mono b0.size); have hbs1 := b0.size; have hnr : Row (w1.alloc (.cells #[.string ⟨#[97]⟩] 9)) w1.heap.size 9 [.string ⟨#[97]⟩] := row_new rfl)
            | ((with_reducible refine (?_ : wpList _ _ _ (Oper.mk (some 27) _ _ _ _ _ :: _) _ _)); refine wpList_append_own_at _ rfl _ _ 55 rfl w.heap.size 9 j0 (.string ⟨#[]⟩) 1 16 Try.underlying55 ji jz0 jz1 jz2 rfl (by decide) _ _ _ rfl (o0.alloc _) ⟨w1.heap.size, 0, none⟩ 1 1 [.string ⟨#[97]⟩] rfl rfl (news_one hnr) (by simp [Value.oneCell']) (by unfold maxLen; omega) (by omega) (by simp; omega) ?_; intro v2 w2 o2 hg2 _ _; have b4 := b0.trans (app1' o0 hbs1 hg2)))
          go_roundw
          case rel => exact ⟨j + 1, by go_num, by omega, by rw [HPS1.out, strv_snoc]; exact o2, b4⟩
          case measure => simp [intOf]; omega
        · have HU := Lib.hid (HG21.out hx)
          have hne := HLE.out x hx
          clear HG11 HG21
          rw [HU.out] at HPS1
          go_wp2_with (first
            | (go_at_call 48; (with_reducible refine (HT1.out _).mono ?_); rintro e w1 ⟨rfl, b1⟩; replace o0 := o0.kept' b1; replace b0 := b0.trans (b1.mono b0.size); have hbs1 := b0.size; have hnr : Row (w1.alloc (.cells #[.string (wS x)] 9)) w1.heap.size 9 [.string (wS x)] := row_new rfl)
            | ((with_reducible refine (?_ : wpList _ _ _ (Oper.mk (some 27) _ _ _ _ _ :: _) _ _)); refine wpList_append_own_at _ rfl _ _ 55 rfl w.heap.size 9 j0 (.string ⟨#[]⟩) 1 16 Try.underlying55 ji jz0 jz1 jz2 rfl (by decide) _ _ _ rfl (o0.alloc _) ⟨w1.heap.size, 0, none⟩ 1 1 [.string (wS x)] rfl rfl (news_one hnr) (by simp [Value.oneCell']) (by unfold maxLen; omega) (by omega) (by simp; omega) ?_; intro v2 w2 o2 hg2 _ _; have b4 := b0.trans (app1' o0 hbs1 hg2)))
          go_roundw
          case rel => exact ⟨j + 1, by go_num, by omega, by rw [HPS1.out, strv_snoc]; exact o2, b4⟩
          case measure => simp [intOf]; omega
      · have g2 : decide (j < n) = false := decide_eq_false h1
        have HU := Lib.hid (HG3.out j h1)
        clear HT HG1 HG2 HG3 HPS HP3 HA
        rw [HU.out] at HPS1
        have hnr : Row (wr.alloc (.cells #[.string ⟨#[97]⟩] 9)) wr.heap.size 9 [.string ⟨#[97]⟩] := row_new rfl
        go_wp2_with ((with_reducible refine (?_ : wpList _ _ _ (Oper.mk (some 27) _ _ _ _ _ :: _) _ _)); refine wpList_append_own_at _ rfl _ _ 55 rfl w.heap.size 9 j0 (.string ⟨#[]⟩) 1 16 Try.underlying55 ji jz0 jz1 jz2 rfl (by decide) _ _ _ rfl (o0.alloc _) ⟨wr.heap.size, 0, none⟩ 1 1 [.string ⟨#[97]⟩] rfl rfl (news_one hnr) (by simp [Value.oneCell']) (by unfold maxLen; omega) (by omega) (by simp; omega) ?_; intro v2 w2 o2 hg2 _ _; have b4 := b0.trans (app1' o0 hbs hg2))
        go_roundw
        case rel => exact ⟨j + 1, by go_num, by omega, by rw [HPS1.out, strv_snoc]; exact o2, b4⟩
        case measure => simp [intOf]; omega
    · obtain rfl : j = 3 := by omega
      have g1 : decide (((3 : Nat) : Int) < 3) = false := decide_eq_false (by omega)
      obtain ⟨A2, c2, rfl⟩ := own_shape1 o0
      clear HT HG1 HG2 HG3 HPS HA
      go_wp2
      go_ret
      exact ⟨_, rfl, by rw [← HP3.out]; exact o0, b0⟩
end Go.Proofs.Ytoklnpiehbnalaa
