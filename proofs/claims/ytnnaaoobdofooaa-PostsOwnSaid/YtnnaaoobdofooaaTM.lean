/- Rows of a copy that may be written. -/
import Derived.Test.YtnnaaoobdofooaaRU
import Derived.Test.YtnnaaoobdofooaaSK
namespace Go.Proofs.Ytnnaaoobdofooaa
open Go.RowKit
set_option maxHeartbeats 1000000
set_option maxRecDepth 100000
/-- No two rows have a block in common. -/
def Apt (cs : List Value) : Prop := ∀ (i j : Nat) (u v : Value) (g : Nat), i < j → cs[i]? = some u → cs[j]? = some v → u.ownBlock = some g → v.ownBlock ≠ some g
theorem Apt.add {w w' : World} {B : Nat} {cs : List Value} {L : List (List Int)} {v : Value} {r : List Int} {n : Nat} (ha : Apt cs) (h : RowsOwn w B cs L) (hv : w'.ownsRow w.heap.size 3 1 v n (iv r)) : Apt (cs ++ [v]) := by
  intro i j u v' g hij hi hj hg
  by_cases e : j < cs.length
  · rw [List.getElem?_append_left e] at hj
    rw [List.getElem?_append_left (by omega)] at hi
    exact ha i j u v' g hij hi hj hg
  · by_cases e2 : j = cs.length
    · subst e2
      rw [List.getElem?_append_left (by omega)] at hi
      simp at hj
      subst hj
      obtain ⟨u', h1, h2⟩ := h.2 i (by rw [← h.1]; exact hij)
      rw [hi] at h1
      injection h1 with h1
      subst h1
      have h3 := (own_ge h2 hg).2.1
      intro h4
      have := (own_ge hv h4).1
      omega
    · rw [List.getElem?_eq_none (by simp; omega)] at hj
      cases hj
/-- A number of a table is written. -/
def setT (L : List (List Int)) (r k : Nat) (x : Int) : List (List Int) := L.set r ((getl L r).set k x)
theorem setT_len (L : List (List Int)) (r k : Nat) (x : Int) : (setT L r k x).length = L.length := by unfold setT; rw [List.length_set]
theorem getl_setT {L : List (List Int)} {r k : Nat} {x : Int} (hr : r < L.length) (j : Nat) : getl (setT L r k x) j = if r = j then (getl L r).set k x else getl L j := by
  have e : getl (setT L r k x) j = ((setT L r k x)[j]?).getD [] := by unfold getl; rw [List.getD_eq_getElem?_getD]
  rw [e]
  unfold setT
  rw [List.getElem?_set]
  by_cases h : r = j
  · subst h; rw [if_pos rfl, if_pos rfl, if_pos hr]; rfl
  · rw [if_neg h, if_neg h]; unfold getl; rw [List.getD_eq_getElem?_getD]
theorem gat_setT {L : List (List Int)} {r k : Nat} {x : Int} (hr : r < L.length) (hk : k < (getl L r).length) (i j : Nat) : gat (setT L r k x) i j = if r = i ∧ k = j then x else gat L i j := by
  unfold gat
  rw [getl_setT hr]
  by_cases h : r = i
  · subst h
    rw [if_pos rfl, geti_set hk]
    by_cases e : k = j
    · rw [if_pos e, if_pos ⟨rfl, e⟩]
    · rw [if_neg e, if_neg (fun h => e h.2)]
  · rw [if_neg h, if_neg (fun h2 => h h2.1)]
theorem own_far {w : World} {C n z g k : Nat} {t : TypeId} {u v : Value} {xs : List Value} (h : w.ownsRow C t z u n xs) (hne : u.ownBlock ≠ some g) : (w.setCell ⟨g, k, none⟩ v).ownsRow C t z u n xs := by
  refine ⟨h.1, ?_⟩
  rcases h.2 with h2 | ⟨g', cap, cur, h1, hb, hg, hr⟩
  · exact .inl h2
  · refine .inr ⟨g', cap, cur, h1, hb, ?_, hr⟩
    have hn : g' ≠ g := fun e => hne (by rw [h1, e]; rfl)
    rw [Below.heap_setCell w ⟨g, k, none⟩ v g' hn]; exact hg
theorem own_far_t {w : World} {C n z g k : Nat} {t : TypeId} {u v : Value} {xs : List Value} {cur : Array Value} (h : w.ownsRow C t z u n xs) (ht : t ≠ 3) (hg : w.heap[g]? = some (.cells cur 3 (0, 0))) : (w.setCell ⟨g, k, none⟩ v).ownsRow C t z u n xs :=
  own_far h (fun e => by
    obtain ⟨_, _, c, h2⟩ := own_ge h e
    rw [hg] at h2
    injection h2 with h2
    injection h2 with _ h2
    exact ht h2.symm)
theorem RowsOwn.put {w : World} {B : Nat} {cs : List Value} {L : List (List Int)} {r k : Nat} (h : RowsOwn w B cs L) (ap : Apt cs) (hr : r < L.length) (hk : k < (getl L r).length) :
    ∃ g c cur, cs[r]? = some (.slice (some ⟨g, 0, none⟩) (getl L r).length c) ∧ B ≤ g ∧ w.heap[g]? = some (.cells cur 3 (0, 0)) ∧ w.cell? ⟨g, k, none⟩ = some (.int .i64 (geti (getl L r) k)) ∧ w.frozen? ⟨g, k, none⟩ = false ∧
      ∀ x : Int, RowsOwn (w.setCell ⟨g, k, none⟩ (.int .i64 x)) B cs (setT L r k x) := by
  obtain ⟨v, h1, h2⟩ := h.2 r hr
  rcases h2.2 with ⟨h3, h0⟩ | ⟨g, cap, cur, rfl, hb, hg, hc, hm, hs, ht⟩
  · omega
  have hrow : Row w g 3 cur.toList := by unfold Row; rw [hg]
  refine ⟨g, cap, cur, h1, hb, hg, ?_, hrow.free k, fun x => ⟨by rw [setT_len]; exact h.1, fun j hj => ?_⟩⟩
  · have := h2.cells (g := g) rfl k (.int .i64 (geti (getl L r) k)) (by unfold iv; rw [List.getElem?_map, List.getElem?_eq_getElem hk, geti_eq hk]; rfl)
    rw [WideShapes.add_plain, Nat.zero_add] at this
    exact this
  · rw [setT_len] at hj
    rw [getl_setT hr]
    by_cases e : r = j
    · subst e
      rw [if_pos rfl]
      refine ⟨_, h1, ?_⟩
      rw [List.length_set]
      refine ⟨by rw [iv_len, List.length_set]; omega, .inr ⟨g, cap, (cur.toList.set k (.int .i64 x)).toArray, rfl, hb, hrow.set k _, hc, hm, ?_, ?_⟩⟩
      · rw [List.size_toArray, List.length_set]; simpa using hs
      · show List.take _ (cur.toList.set k (.int .i64 x)) = _
        rw [List.take_set, ht, iv_set]
    · rw [if_neg e]
      obtain ⟨v2, h5, h6⟩ := h.2 j hj
      refine ⟨v2, h5, own_far h6 (fun e2 => ?_)⟩
      rcases Nat.lt_or_gt_of_ne e with e3 | e3
      · exact ap r j _ _ g e3 h1 h5 rfl e2
      · exact ap j r _ _ g e3 h5 h1 e2 rfl
theorem rows_in {w : World} {B C c n : Nat} {A : Option Addr} {cs : List Value} {L : List (List Int)} (h : RowsOwn w B cs L) (hu : w.ownsRow C 27 1 (.slice A n c) n cs) : RowsIn w A L := fun hp => by
  have hn : cs.length = n := by have := hu.1; omega
  rcases hu.2 with ⟨h1, h0⟩ | ⟨g, cap, cur, h1, hb, hg, hc, _, hs, ht⟩
  · have := h.1; omega
  · injection h1 with h1 h2 h3
    subst h1 h3
    refine ⟨g, 0, rfl, (Array.getElem?_eq_some_iff.1 hg).1, fun j hj => ?_⟩
    obtain ⟨v, h4, h5⟩ := h.2 j hj
    have hmax : ∃ A' c', v = .slice A' (getl L j).length c' ∧ c' ≤ maxLen := by
      rcases h5.2 with ⟨h6, h7⟩ | ⟨g', cap', cur', h6, _, _, _, h7, _⟩
      · exact ⟨none, 0, by rw [h6, h7], by unfold maxLen; omega⟩
      · exact ⟨_, _, h6, h7⟩
    obtain ⟨A', c', rfl, -, h7, h6⟩ := own_intsI h5
    obtain ⟨A'', c'', e1, e2⟩ := hmax
    injection e1 with _ _ e3
    refine ⟨A', c', ?_, h7, by omega, h6⟩
    have := hu.cells (g := g) rfl j _ h4
    rw [WideShapes.add_plain] at this
    exact this
theorem tbR_all {L : List (List Int)} (h : IsT L) : tbR L (min L.length 11) = L := by
  have hle := h.le
  unfold tbR
  rw [show min L.length 11 = L.length by omega, List.take_length]
  refine List.ext_getElem (by rw [List.length_map]) (fun i h1 h2 => ?_)
  rw [List.getElem_map, List.take_of_length_le]
  have := h.row i h2
  unfold getl at this
  rw [List.getD_eq_getElem?_getD, List.getElem?_eq_getElem h2] at this
  simp only [Option.getD_some] at this
  omega
theorem table_apt (A : Option Addr) (c : Nat) (L : List (List Int)) (w : World) (_hx : L.length ≤ maxLen) (ha : RowsIn w A L) :
    Calls Try.prog 17 #[.slice A L.length c] w fun e w' => ∃ A' c' cs, e = .returned (.slice A' (min L.length 11) c') ∧ w'.ownsRow w.heap.size 27 1 (.slice A' (min L.length 11) c') (min L.length 11) cs ∧ RowsOwn w' w.heap.size cs (tbR L (min L.length 11)) ∧ Apt cs ∧ Below w.heap.size w w' := by
  obtain ⟨k0, ki, kz0, kz1, kz2⟩ := info_parts info27
  have HA := Lib.hid ha
  have o0 : w.ownsRow w.heap.size 27 1 (.slice none 0 0) 0 [] := ⟨rfl, .inl ⟨rfl, rfl⟩⟩
  have R0 : Hid (RowsOwn w w.heap.size [] (tbR L 0)) := Lib.hid ⟨rfl, fun j hj => absurd hj (by simp [tbR])⟩
  have P0 : Hid (Apt []) := Lib.hid (fun i j u v g _ h => by simp at h)
  have b0 := Below.refl w.heap.size w
  have HTS := Lib.hid (fun k (hk : k < L.length) => tbR_snoc hk)
  obtain ⟨n, hn⟩ : ∃ n, min L.length 11 = n := ⟨_, rfl⟩
  rw [hn]
  have hn1 : n ≤ L.length := by omega
  have hn2 : n ≤ 11 := by omega
  have HNE : Hid (∀ k, k ≤ n → ¬ k < n → ¬ (k < L.length ∧ k ≤ 10)) := Lib.hid (fun k h1 h2 => by omega)
  clear ha hn
  go_enter Try.func17, Try.ntmps17
  go_wp2
  go_loopw [3, 4] (fun v i wr => ∃ (k : Nat) (cs : List Value), k ≤ n ∧ i = .int .i64 k ∧ wr.ownsRow w.heap.size 27 1 v k cs ∧ Hid (RowsOwn wr w.heap.size cs (tbR L k)) ∧ Hid (Apt cs) ∧ Below w.heap.size w wr) (fun _ i _ => n - (intOf i).toNat)
  case atStart => exact ⟨0, [], by omega, rfl, o0, R0, P0, b0⟩
  case round =>
    clear o0 R0 P0 b0
    obtain ⟨k, cs, hk, rfl, o0, HR, HP, b0⟩ := hrel
    obtain ⟨A2, c2, rfl⟩ := own_head o0
    by_cases hlt : k < n
    · have g1 : decide ((k : Int) < (L.length : Int)) = true := decide_eq_true (by omega)
      have g2 : decide ((k : Int) ≤ 10) = true := decide_eq_true (by omega)
      obtain ⟨b, o, hAe, hb, hcs⟩ := (HA.out.below b0) (by omega)
      subst hAe
      obtain ⟨B, cB, d1, h3, h4, h2⟩ := hcs k (by omega)
      have HLC := Lib.hid (list_copy_any B cB (getl L k) wr h3 h4 h2)
      have HO := Lib.hid o0
      have hsz := b0.size
      have HTK := Lib.hid (HTS.out k (by omega))
      clear hcs h2 h3 h4 o0
      go_wp2_with (go_at_call 34; fail)
      refine HLC.out.mono ?_
      rintro e w5 ⟨v5, n5, rfl, o5, b5⟩
      obtain ⟨A5, c5, rfl, hn5, -, -⟩ := own_intsI o5
      subst hn5
      have b6 := b0.trans (b5.mono hsz)
      have OO := Lib.hid (HO.out.kept' b5)
      have RX := Lib.hid ((HR.out.below b5).add (r := (getl L k).take 12) (own_mono o5 hsz))
      have PX := Lib.hid (HP.out.add HR.out o5)
      have hbs6 := b6.size
      clear HLC o5 HO HR HP b5 d1
      generalize (getl L k).take 12 = r at *
      have hnr : Row (w5.alloc (.cells #[.slice A5 r.length c5] 27)) w5.heap.size 27 [.slice A5 r.length c5] := row_new rfl
      go_wp2_with (at_builtin; refine wpList_append_own_at _ rfl (.tmp 15) (.tmp 21) 22 rfl w.heap.size 27 k0 (.slice none 0 0) 1 24 Try.underlying22 ki kz0 kz1 kz2 rfl (by decide) _ _ _ rfl (OO.out.alloc _) ⟨w5.heap.size, 0, none⟩ 1 1 [.slice A5 r.length c5] rfl rfl (news_one hnr) (by simp [Value.oneCell']) (by unfold maxLen; omega) (by omega) (by simp; omega) ?_; intro v8 w8 o8 hg8 _ _)
      have b8 := b6.trans (app1' OO.out b6.size hg8)
      go_roundw
      case rel =>
        refine ⟨k + 1, cs ++ [.slice A5 r.length c5], by omega, by go_num, o8, Lib.hid ?_, PX, b8⟩
        rw [HTK.out]
        exact (RX.out.below ((Below.refl _ _).alloc (Nat.le_refl _) _)).grown (OO.out.alloc _) (by decide) hg8
      case measure => simp [intOf]; omega
    · have hcase := HNE.out k hk hlt
      obtain rfl : k = n := by omega
      clear HNE hlt
      by_cases hL : k < L.length
      · have g1 : decide ((k : Int) < (L.length : Int)) = true := decide_eq_true (by omega)
        have g2 : decide ((k : Int) ≤ 10) = false := decide_eq_false (by omega)
        clear hcase
        go_wp2
        go_ret
        exact ⟨_, _, _, rfl, o0, HR.out, HP.out, b0⟩
      · have g1 : decide ((k : Int) < (L.length : Int)) = false := decide_eq_false (by omega)
        clear hcase
        go_wp2
        go_ret
        exact ⟨_, _, _, rfl, o0, HR.out, HP.out, b0⟩
end Go.Proofs.Ytnnaaoobdofooaa
