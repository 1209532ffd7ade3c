/- The law's copy of a table. -/
import Derived.Test.YtnnaaoobdofooaaRL
import Derived.Test.YtnnaaoobdofooaaRM
namespace Go.Proofs.Ytnnaaoobdofooaa
open Go.RowKit
set_option maxHeartbeats 1000000
set_option maxRecDepth 100000
/-- Rows of the call's own, each of its own. -/
def RowsOwn (w : World) (B : Nat) (cs : List Value) (L : List (List Int)) : Prop := cs.length = L.length ∧ ∀ j, j < L.length → ∃ v, cs[j]? = some v ∧ w.ownsRow B 3 1 v (getl L j).length (iv (getl L j))
theorem RowsOwn.below {w w' : World} {B : Nat} {cs : List Value} {L : List (List Int)} (h : RowsOwn w B cs L) (k : Below w.heap.size w w') : RowsOwn w' B cs L := ⟨h.1, fun j hj => by
  obtain ⟨v, h1, h2⟩ := h.2 j hj
  exact ⟨v, h1, h2.kept' k⟩⟩
theorem getl_app {L : List (List Int)} {r : List Int} {j : Nat} : getl (L ++ [r]) j = if j < L.length then getl L j else if j = L.length then r else [] := by
  unfold getl
  rw [List.getD_eq_getElem?_getD, List.getD_eq_getElem?_getD]
  by_cases h : j < L.length
  · rw [if_pos h, List.getElem?_append_left h]
  · rw [if_neg h, List.getElem?_append_right (by omega)]
    by_cases h2 : j = L.length
    · subst h2; simp
    · rw [if_neg h2, List.getElem?_eq_none (by simp; omega)]; rfl
/-- Another row is laid behind them. -/
theorem RowsOwn.add {w : World} {B : Nat} {cs : List Value} {L : List (List Int)} {v : Value} {r : List Int} (h : RowsOwn w B cs L) (hv : w.ownsRow B 3 1 v r.length (iv r)) : RowsOwn w B (cs ++ [v]) (L ++ [r]) := by
  refine ⟨by simp [h.1], fun j hj => ?_⟩
  rw [List.length_append, List.length_singleton] at hj
  by_cases e : j < L.length
  · obtain ⟨u, h1, h2⟩ := h.2 j e
    refine ⟨u, by rw [List.getElem?_append_left (by rw [h.1]; exact e)]; exact h1, ?_⟩
    rw [getl_app, if_pos e]; exact h2
  · obtain rfl : j = L.length := by omega
    refine ⟨v, by rw [← h.1]; simp, ?_⟩
    rw [getl_app, if_neg e, if_pos rfl]; exact hv
/-- The rows stay while the list of them is written. -/
theorem RowsOwn.grown {w w' : World} {B C n : Nat} {cs xs : List Value} {L : List (List Int)} {u : Value} {z : Nat} {t : TypeId} (h : RowsOwn w B cs L) (hu : w.ownsRow C t z u n xs) (ht : t ≠ 3) (hg : w.grownBy w' u.ownBlock) : RowsOwn w' B cs L := ⟨h.1, fun j hj => by
  obtain ⟨v, h1, h2⟩ := h.2 j hj
  refine ⟨v, h1, h2.kept hg ?_⟩
  cases hb : v.ownBlock with
  | none => exact .inl rfl
  | some g =>
    refine .inr (fun e => ?_)
    obtain ⟨_, _, c1, h3⟩ := own_ge h2 hb
    obtain ⟨_, _, c2, h4⟩ := own_ge hu e.symm
    rw [h3] at h4
    injection h4 with h4
    injection h4 with _ h4
    exact ht h4.symm⟩
theorem rows_at {w : World} {B C c n : Nat} {A : Option Addr} {cs : List Value} {L : List (List Int)} (h : RowsOwn w B cs L) (hu : w.ownsRow C 27 1 (.slice A n c) n cs) : RowsAt w A L := fun hp => by
  have hn : cs.length = n := by have := hu.1; omega
  rcases hu.2 with ⟨h1, h0⟩ | ⟨g, cap, cur, h1, hb, hg, hc, _, hs, ht⟩
  · have := h.1; omega
  · injection h1 with h1 h2 h3
    subst h1 h3
    refine ⟨g, 0, rfl, (Array.getElem?_eq_some_iff.1 hg).1, fun j hj => ?_⟩
    obtain ⟨v, h4, h5⟩ := h.2 j hj
    obtain ⟨A', c', rfl, -, -, h6⟩ := own_intsI h5
    refine ⟨A', c', ?_, h6⟩
    have := hu.cells (g := g) rfl j _ h4
    rw [WideShapes.add_plain] at this
    exact this
theorem own_head {W : World} {B n : Nat} {t : TypeId} {v : Value} {cs : List Value} (h : W.ownsRow B t 1 v n cs) : ∃ A c, v = .slice A n c := by
  rcases h.2 with ⟨h1, h0⟩ | ⟨g, cap, cur, h1, _⟩
  · exact ⟨none, 0, by rw [h1, h0]⟩
  · exact ⟨_, _, h1⟩
theorem info27 : (Try.prog.info? 27).map (fun i => (i.zero, i.size, i.bytes)) = some (some (.slice none 0 0), 1, 24) := by kernel_rfl
/-- Lists of numbers as they come in. -/
def RowsIn (w : World) (A : Option Addr) (L : List (List Int)) : Prop :=
  0 < L.length → ∃ b o, A = some ⟨b, o, none⟩ ∧ b < w.heap.size ∧ ∀ i, i < L.length → ∃ B c, w.cell? ⟨b, o + i, none⟩ = some (.slice B (getl L i).length c) ∧ (getl L i).length ≤ c ∧ c ≤ maxLen ∧ IntsAt w B (getl L i)
theorem RowsIn.below {w w' : World} {A : Option Addr} {L : List (List Int)} (h : RowsIn w A L) (hg : Below w.heap.size w w') : RowsIn w' A L := fun hp => by
  obtain ⟨b, o, e, hb, hc⟩ := h hp
  refine ⟨b, o, e, Nat.lt_of_lt_of_le hb hg.size, fun i hi => ?_⟩
  obtain ⟨B, c, h1, h3, h4, h2⟩ := hc i hi
  exact ⟨B, c, (hg.cell (p := ⟨b, _, none⟩) hb).trans h1, h3, h4, h2.below hg⟩
/-- So many rows, cut. -/
def tbR (L : List (List Int)) (k : Nat) : List (List Int) := (L.take k).map fun l => l.take 12
theorem tbR_len {L : List (List Int)} {k : Nat} (h : k ≤ L.length) : (tbR L k).length = k := by unfold tbR; rw [List.length_map, List.length_take]; omega
theorem tbR_snoc {L : List (List Int)} {k : Nat} (h : k < L.length) : tbR L (k + 1) = tbR L k ++ [(getl L k).take 12] := by
  unfold tbR getl
  rw [List.take_add_one, List.getElem?_eq_getElem h, List.map_append, List.getD_eq_getElem?_getD, List.getElem?_eq_getElem h]
  rfl
theorem table_any (A : Option Addr) (c : Nat) (L : List (List Int)) (w : World) (_hx : L.length ≤ maxLen) (ha : RowsIn w A L) :
    Calls Try.prog 17 #[.slice A L.length c] w fun e w' => ∃ A' c' cs, e = .returned (.slice A' (min L.length 11) c') ∧ w'.ownsRow w.heap.size 27 1 (.slice A' (min L.length 11) c') (min L.length 11) cs ∧ RowsOwn w' w.heap.size cs (tbR L (min L.length 11)) ∧ Below w.heap.size w w' := by
  obtain ⟨k0, ki, kz0, kz1, kz2⟩ := info_parts info27
  have HA := Lib.hid ha
  have o0 : w.ownsRow w.heap.size 27 1 (.slice none 0 0) 0 [] := ⟨rfl, .inl ⟨rfl, rfl⟩⟩
  have R0 : Hid (RowsOwn w w.heap.size [] (tbR L 0)) := Lib.hid ⟨rfl, fun j hj => absurd hj (by simp [tbR])⟩
  have b0 := Below.refl w.heap.size w
  have HTS := Lib.hid (fun k (hk : k < L.length) => tbR_snoc hk)
  obtain ⟨n, hn⟩ : ∃ n, min L.length 11 = n := ⟨_, rfl⟩
  rw [hn]
  have hn1 : n ≤ L.length := by omega
  have hn2 : n ≤ 11 := by omega
  have HNE : Hid (∀ k, k ≤ n → ¬ k < n → ¬ (k < L.length ∧ k ≤ 10)) := Lib.hid (fun k h1 h2 => by omega)
  clear ha hn
  go_enter Try.func17, Try.ntmps17
  go_wp2
  go_loopw [3, 4] (fun v i wr => ∃ (k : Nat) (cs : List Value), k ≤ n ∧ i = .int .i64 k ∧ wr.ownsRow w.heap.size 27 1 v k cs ∧ Hid (RowsOwn wr w.heap.size cs (tbR L k)) ∧ Below w.heap.size w wr) (fun _ i _ => n - (intOf i).toNat)
  case atStart => exact ⟨0, [], by omega, rfl, o0, R0, b0⟩
  case round =>
    clear o0 R0 b0
    obtain ⟨k, cs, hk, rfl, o0, HR, b0⟩ := hrel
    obtain ⟨A2, c2, rfl⟩ := own_head o0
    by_cases hlt : k < n
    · have g1 : decide ((k : Int) < (L.length : Int)) = true := decide_eq_true (by omega)
      have g2 : decide ((k : Int) ≤ 10) = true := decide_eq_true (by omega)
      obtain ⟨b, o, hAe, hb, hcs⟩ := (HA.out.below b0) (by omega)
      subst hAe
      obtain ⟨B, cB, d1, h3, h4, h2⟩ := hcs k (by omega)
      have HLC := Lib.hid (list_copy_any B cB (getl L k) wr h3 h4 h2)
      have HO := Lib.hid o0
      have hsz := b0.size
      have HTK := Lib.hid (HTS.out k (by omega))
      clear hcs h2 h3 h4 o0
      go_wp2_with (go_at_call 34; fail)
      refine HLC.out.mono ?_
      rintro e w5 ⟨v5, n5, rfl, o5, b5⟩
      obtain ⟨A5, c5, rfl, hn5, -, -⟩ := own_intsI o5
      subst hn5
      have b6 := b0.trans (b5.mono hsz)
      have OO := Lib.hid (HO.out.kept' b5)
      have RX := Lib.hid ((HR.out.below b5).add (r := (getl L k).take 12) (own_mono o5 hsz))
      have hbs6 := b6.size
      clear HLC o5 HO HR b5 d1
      generalize (getl L k).take 12 = r at *
      have hnr : Row (w5.alloc (.cells #[.slice A5 r.length c5] 27)) w5.heap.size 27 [.slice A5 r.length c5] := row_new rfl
      go_wp2_with (at_builtin; refine wpList_append_own_at _ rfl (.tmp 15) (.tmp 21) 22 rfl w.heap.size 27 k0 (.slice none 0 0) 1 24 Try.underlying22 ki kz0 kz1 kz2 rfl (by decide) _ _ _ rfl (OO.out.alloc _) ⟨w5.heap.size, 0, none⟩ 1 1 [.slice A5 r.length c5] rfl rfl (news_one hnr) (by simp [Value.oneCell']) (by unfold maxLen; omega) (by omega) (by simp; omega) ?_; intro v8 w8 o8 hg8 _ _)
      have b8 := b6.trans (app1' OO.out b6.size hg8)
      go_roundw
      case rel =>
        refine ⟨k + 1, cs ++ [.slice A5 r.length c5], by omega, by go_num, o8, Lib.hid ?_, b8⟩
        rw [HTK.out]
        exact (RX.out.below ((Below.refl _ _).alloc (Nat.le_refl _) _)).grown (OO.out.alloc _) (by decide) hg8
      case measure => simp [intOf]; omega
    · have hcase := HNE.out k hk hlt
      obtain rfl : k = n := by omega
      clear HNE hlt
      by_cases hL : k < L.length
      · have g1 : decide ((k : Int) < (L.length : Int)) = true := decide_eq_true (by omega)
        have g2 : decide ((k : Int) ≤ 10) = false := decide_eq_false (by omega)
        clear hcase
        go_wp2
        go_ret
        exact ⟨_, _, _, rfl, o0, HR.out, b0⟩
      · have g1 : decide ((k : Int) < (L.length : Int)) = false := decide_eq_false (by omega)
        clear hcase
        go_wp2
        go_ret
        exact ⟨_, _, _, rfl, o0, HR.out, b0⟩
end Go.Proofs.Ytnnaaoobdofooaa
