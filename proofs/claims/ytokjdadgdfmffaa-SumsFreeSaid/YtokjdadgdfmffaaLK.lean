/- Lists of elements are made. -/
import Derived.Test.YtokjdadgdfmffaaLJ
namespace Go.Proofs.Ytokjdadgdfmffaa
open Go.RowKit
set_option maxHeartbeats 2000000
set_option maxRecDepth 100000
/-- Rows of the call's own, each of its own. -/
def RowsOwn (w : World) (B : Nat) (cs : List Value) (L : List (List Int)) : Prop := cs.length = L.length ∧ ∀ j, j < L.length → ∃ v, cs[j]? = some v ∧ w.ownsRow B 3 1 v (getl L j).length (iv (getl L j))
theorem RowsOwn.below {w w' : World} {B : Nat} {cs : List Value} {L : List (List Int)} (h : RowsOwn w B cs L) (k : Below w.heap.size w w') : RowsOwn w' B cs L := ⟨h.1, fun j hj => by
  obtain ⟨v, h1, h2⟩ := h.2 j hj
  exact ⟨v, h1, h2.kept' k⟩⟩
theorem getl_app {L : List (List Int)} {r : List Int} {j : Nat} : getl (L ++ [r]) j = if j < L.length then getl L j else if j = L.length then r else [] := by
  unfold getl
  rw [List.getD_eq_getElem?_getD, List.getD_eq_getElem?_getD]
  by_cases h : j < L.length
  · rw [if_pos h, List.getElem?_append_left h]
  · rw [if_neg h, List.getElem?_append_right (by omega)]
    by_cases h2 : j = L.length
    · subst h2; simp
    · rw [if_neg h2, List.getElem?_eq_none (by simp; omega)]; rfl
/-- Another row is laid behind them. -/
theorem RowsOwn.add {w : World} {B : Nat} {cs : List Value} {L : List (List Int)} {v : Value} {r : List Int} (h : RowsOwn w B cs L) (hv : w.ownsRow B 3 1 v r.length (iv r)) : RowsOwn w B (cs ++ [v]) (L ++ [r]) := by
  refine ⟨by simp [h.1], fun j hj => ?_⟩
  rw [List.length_append, List.length_singleton] at hj
  by_cases e : j < L.length
  · obtain ⟨u, h1, h2⟩ := h.2 j e
    refine ⟨u, by rw [List.getElem?_append_left (by rw [h.1]; exact e)]; exact h1, ?_⟩
    rw [getl_app, if_pos e]; exact h2
  · obtain rfl : j = L.length := by omega
    refine ⟨v, by rw [← h.1]; simp, ?_⟩
    rw [getl_app, if_neg e, if_pos rfl]; exact hv
/-- The rows stay while the list of them is written. -/
theorem RowsOwn.grown {w w' : World} {B C n : Nat} {cs xs : List Value} {L : List (List Int)} {u : Value} {z : Nat} {t : TypeId} (h : RowsOwn w B cs L) (hu : w.ownsRow C t z u n xs) (ht : t ≠ 3) (hg : w.grownBy w' u.ownBlock) : RowsOwn w' B cs L := ⟨h.1, fun j hj => by
  obtain ⟨v, h1, h2⟩ := h.2 j hj
  refine ⟨v, h1, h2.kept hg ?_⟩
  cases hb : v.ownBlock with
  | none => exact .inl rfl
  | some g =>
    refine .inr (fun e => ?_)
    obtain ⟨_, _, c1, h3⟩ := own_ge h2 hb
    obtain ⟨_, _, c2, h4⟩ := own_ge hu e.symm
    rw [h3] at h4
    injection h4 with h4
    injection h4 with _ h4
    exact ht h4.symm⟩
theorem rows_at {w : World} {B C c n : Nat} {A : Option Addr} {cs : List Value} {L : List (List Int)} (h : RowsOwn w B cs L) (hu : w.ownsRow C 22 1 (.slice A n c) n cs) : RowsAt w A L := fun hp => by
  have hn : cs.length = n := by have := hu.1; omega
  rcases hu.2 with ⟨h1, h0⟩ | ⟨g, cap, cur, h1, hb, hg, hc, _, hs, ht⟩
  · have := h.1; omega
  · injection h1 with h1 h2 h3
    subst h1 h3
    refine ⟨g, 0, rfl, (Array.getElem?_eq_some_iff.1 hg).1, fun j hj => ?_⟩
    obtain ⟨v, h4, h5⟩ := h.2 j hj
    obtain ⟨A', c', rfl, -, -, h6⟩ := own_intsI h5
    refine ⟨A', c', ?_, h6⟩
    have := hu.cells (g := g) rfl j _ h4
    rw [WideShapes.add_plain] at this
    exact this
theorem info22 : (Try.prog.info? 22).map (fun i => (i.zero, i.size, i.bytes)) = some (some (.slice none 0 0), 1, 24) := by kernel_rfl
/-- An element, so far as it is made. -/
def SoFar (g r : List Int) : Prop := ∀ j, j < r.length → 0 ≤ geti r j ∧ geti r j < geti g j
theorem soFar_el {g r : List Int} {m n : Nat} (hg : IsG g m n) (hl : r.length = g.length) (h : SoFar g r) : elV m n r = true := by
  obtain ⟨_, ⟨rfl, h1⟩ | ⟨rfl, h1⟩, _⟩ := hg
  · match r, hl with
    | [y], _ =>
      have := h 0 (by simp)
      exact decide_eq_true ⟨h1, this⟩
  · match r, hl with
    | [x, y], _ =>
      have h2 := h 0 (by simp)
      have h3 := h 1 (by simp)
      exact decide_eq_true ⟨by omega, h2, h3⟩
theorem isG_rng {g : List Int} {m n : Nat} (hg : IsG g m n) {j : Nat} (hj : j < g.length) : ∃ q : Nat, geti g j = q ∧ 2 ≤ q ∧ q ≤ 24 := by
  obtain ⟨⟨g1, g2, g3, g4⟩, ⟨rfl, h1⟩ | ⟨rfl, h1⟩, h2, _⟩ := hg
  · obtain rfl : j = 0 := by simpa using hj
    exact ⟨n, rfl, h2, g4⟩
  · have hj2 : j < 2 := hj
    obtain rfl | rfl : j = 0 ∨ j = 1 := by omega
    · exact ⟨m, rfl, h1, g2⟩
    · exact ⟨n, rfl, h2, g4⟩
theorem geti_app {r : List Int} {x : Int} {j : Nat} : geti (r ++ [x]) j = if j < r.length then geti r j else if j = r.length then x else 0 := by
  unfold geti
  rw [List.getD_eq_getElem?_getD, List.getD_eq_getElem?_getD]
  by_cases h : j < r.length
  · rw [if_pos h, List.getElem?_append_left h]
  · rw [if_neg h, List.getElem?_append_right (by omega)]
    by_cases h2 : j = r.length
    · subst h2; simp
    · rw [if_neg h2, List.getElem?_eq_none (by simp; omega)]; rfl
theorem SoFar.add {g r : List Int} {x : Int} (h : SoFar g r) (hx : 0 ≤ x ∧ x < geti g r.length) : SoFar g (r ++ [x]) := fun j hj => by
  rw [List.length_append, List.length_singleton] at hj
  rw [geti_app]
  by_cases e : j < r.length
  · rw [if_pos e]; exact h j e
  · obtain rfl : j = r.length := by omega
    rw [if_neg e, if_pos rfl]; exact hx
/-- All of them are elements. -/
def Els (m n : Nat) (L : List (List Int)) : Prop := ∀ j, j < L.length → elV m n (getl L j) = true ∧ (getl L j).length ≤ 2
def ElemsR (w : World) (m n k : Nat) (e : Ending) (w' : World) : Prop := ∃ A c cs L', e = .returned (.slice A L'.length c) ∧ L'.length = k ∧ Els m n L' ∧ w'.ownsRow w.heap.size 22 1 (.slice A L'.length c) L'.length cs ∧ RowsOwn w' w.heap.size cs L' ∧ Below w.heap.size w w'
theorem elements_any (Ag Al : Option Addr) (cg cl : Nat) (g : List Int) (L : List (List Int)) (mo : Int) (m n : Nat) (w : World) (hg : IsG g m n) (hmo : 0 ≤ mo ∧ mo ≤ 60) (hl : L.length ≤ 9223372036854775807) (hl2 : ∀ i, i < L.length → (getl L i).length ≤ 9223372036854775807)
    (hag : IntsAt w Ag g) (hal : RowsAt w Al L) : Calls Try.prog 40 #[.slice Ag g.length cg, .slice Al L.length cl, .int .i64 mo] w (ElemsR w m n (min L.length mo.toNat)) := by
  have hgl := isG_len hg
  have hg1 : 1 ≤ g.length := by obtain ⟨_, ⟨rfl, _⟩ | ⟨rfl, _⟩, _⟩ := hg <;> simp
  have HG := Lib.hid hg
  have HL2 := Lib.hid hl2
  have HAG := Lib.hid hag
  have HAL := Lib.hid hal
  obtain ⟨m1, m2⟩ := hmo
  obtain ⟨j0, ji, jz0, jz1, jz2⟩ := info_parts info3
  obtain ⟨k0, ki, kz0, kz1, kz2⟩ := info_parts info22
  have o0 : w.ownsRow w.heap.size 22 1 (.slice none 0 0) 0 [] := ⟨rfl, .inl ⟨rfl, rfl⟩⟩
  have b0 : Below w.heap.size w w := Below.refl _ _
  clear hg hl2 hag hal
  go_enter Try.func40, Try.ntmps40
  go_wp2
  go_loopw [7, 8] (fun v i wr => ∃ (k : Nat) (cs : List Value) (L' : List (List Int)), k ≤ L.length ∧ (k : Int) ≤ mo ∧ Hid (L'.length = k) ∧ i = .int .i64 k ∧ wr.ownsRow w.heap.size 22 1 v k cs ∧ Hid (RowsOwn wr w.heap.size cs L') ∧ Hid (Els m n L') ∧ Below w.heap.size w wr) (fun _ i _ => L.length - (intOf i).toNat)
  case atStart => exact ⟨0, [], [], by omega, by omega, Lib.hid rfl, rfl, o0, Lib.hid ⟨rfl, fun j hj => absurd hj (by simp)⟩, Lib.hid (fun j hj => absurd hj (by simp)), b0⟩
  case round =>
    clear o0 b0
    obtain ⟨k, cs, L', hk, hkm, HK, rfl, o0, HR, HE, b0⟩ := hrel
    by_cases hlt : k < L.length ∧ (k : Int) < mo
    · obtain ⟨h1, h2⟩ := hlt
      have g1 : decide (k < L.length) = true := decide_eq_true h1
      have g2 : decide ((k : Int) < mo) = true := decide_eq_true h2
      obtain ⟨bl, ol, hAe, hbl, hcl⟩ := (HAL.out.below b0) (by omega)
      subst hAe
      obtain ⟨Br, cr, hcell, hir⟩ := hcl k h1
      have hrl := HL2.out k h1
      have HAGr := Lib.hid (HAG.out.below b0)
      have HIR := Lib.hid hir
      have hbs := b0.size
      generalize getl L k = row at *
      obtain ⟨W1, hW1⟩ : ∃ W1, W1 = wr := ⟨_, rfl⟩
      subst hW1
      have ox : W1.ownsRow W1.heap.size 3 1 (.slice none 0 0) ([] : List Int).length (iv []) := ⟨rfl, .inl ⟨rfl, rfl⟩⟩
      have bx : Below W1.heap.size W1 W1 := Below.refl _ _
      have O0 := Lib.hid o0
      clear hcl hir o0
      go_wp2
      go_loopw [9, 10] (fun v i wr => ∃ (j : Nat) (r : List Int), j ≤ g.length ∧ Hid (r.length = j) ∧ i = .int .i64 j ∧ wr.ownsRow W1.heap.size 3 1 v j (iv r) ∧ Hid (SoFar g r) ∧ Below W1.heap.size W1 wr) (fun _ i _ => g.length - (intOf i).toNat)
      case atStart => exact ⟨0, [], by omega, Lib.hid rfl, rfl, ox, Lib.hid (fun j hj => absurd hj (by simp)), bx⟩
      case round =>
        clear ox bx
        obtain ⟨j, r, hj, HJ, rfl, ox, HS, bx⟩ := hrel
        by_cases hjt : j < g.length
        · obtain ⟨bg, og, hGe, hbg, hcg⟩ := HAGr.out (by omega)
          subst hGe
          obtain ⟨q, hq, q1, q2⟩ := isG_rng HG.out hjt
          have cgj := hcg j hjt
          rw [hq] at cgj
          have HQ := Lib.hid hq
          have HMO := Lib.hid (fun x w => mod_any2 x q w (by omega) (by omega))
          have HAT := Lib.hid (at_any Br cr row j wr.drew (by omega) (by omega) (HIR.out.below (bx.drew)))
          have hyl := modI_lt (geti row j) (n := q) (by omega)
          generalize geti row j = x at *
          have HY := Lib.hid (HMO.out x)
          generalize modI x q = y at *
          have KS : Hid (∀ w', Below W1.heap.size W1 w' → (w'.cell? ⟨bl, ol + k, none⟩ = some (.slice Br row.length cr) ∧ w'.cell? ⟨bg, og + j, none⟩ = some (.int .i64 q) ∧ Hid (Below W1.heap.size W1 w'))) := Lib.hid fun w' h => ⟨cell_up h hbl hcell, cell_up h hbg cgj, Lib.hid h⟩
          have OX := Lib.hid ox
          have hbx := bx.size
          clear hcg hq cgj ox HMO
          go_wp2
          have hS := KS.out _ bx
          go_region_held3 (fun w' => w'.cell? ⟨bl, ol + k, none⟩ = some (.slice Br row.length cr) ∧ w'.cell? ⟨bg, og + j, none⟩ = some (.int .i64 q) ∧ Hid (Below W1.heap.size W1 w')) (first | assumption | exact KS.out _ bx.drew | exact KS.out _ (bx.alloc bx.size _) | exact KS.out _ ((bx.alloc bx.size _).drew) | exact KS.out _ b9) ((first
            | ((with_reducible refine HAT.out.mono ?_); rintro e w9 ⟨rfl, rfl⟩)
            | ((with_reducible refine (HY.out _).mono ?_); rintro e w9 ⟨rfl, rfl⟩)
            | (refine step_append_own_at rfl (.tmp 28) (.tmp 40) 22 rfl W1.heap.size 3 j0 (.int .i64 0) 1 8 Try.underlying22 ji jz0 jz1 jz2 rfl Nat.zero_lt_one _ j _ rfl ((OX.out.alloc _).kept' ((Below.refl _ _).drew)) ⟨wr.heap.size, 0, none⟩ 1 1 [.int .i64 (y : Int)] rfl rfl ?_ ?_ ?_ ?_ ?_ ?_; exact news_one ((row_new rfl).drew); simp [Value.oneCell']; (unfold maxLen; omega); omega; exact (bx.alloc bx.size _).drew.size; intro v9 w9 o9 hg9; have b9 := (bx.alloc bx.size _).drew.grown hg9 (bx.alloc bx.size _).drew.size (fun g hg => (own_ge OX.out hg).1))))
          go_wp2
          go_roundw
          case rel =>
            refine ⟨j + 1, r ++ [(y : Int)], by omega, Lib.hid (by rw [List.length_append, HJ.out]; rfl), by go_num, by rw [iv_snoc]; exact o9, Lib.hid (HS.out.add ⟨by omega, ?_⟩), b9⟩
            rw [HJ.out, HQ.out]
            omega
          case measure => simp [intOf]; omega
        · obtain rfl : j = g.length := by omega
          obtain ⟨A5, c5, rfl, -, -, -⟩ := own_intsI ox
          have hbx := bx.size
          have hrl2 := HJ.out
          have hrE : elV m n r = true ∧ r.length ≤ 2 := ⟨soFar_el HG.out hrl2 HS.out, by omega⟩
          have oO := O0.out.kept' bx
          have rx : RowsOwn wr w.heap.size (cs ++ [.slice A5 r.length c5]) (L' ++ [r]) := (HR.out.below bx).add (own_mono (by rw [hrl2]; rw [hrl2] at ox; exact ox) hbs)
          have HRX := Lib.hid rx
          have HRE := Lib.hid hrE
          have OO := Lib.hid oO
          have b1 := b0.trans (bx.mono hbs)
          have hnr : Row (wr.alloc (.cells #[.slice A5 r.length c5] 22)) wr.heap.size 22 [.slice A5 r.length c5] := row_new rfl
          have HHJ := Lib.hid hrl2
          clear rx hrE oO hrl2 ox bx
          go_wp2_with (at_builtin; refine wpList_append_own_at _ rfl (.tmp 42) (.tmp 44) 23 rfl w.heap.size 22 k0 (.slice none 0 0) 1 24 Try.underlying23 ki kz0 kz1 kz2 rfl (by decide) _ k _ rfl (OO.out.alloc _) ⟨wr.heap.size, 0, none⟩ 1 1 [.slice A5 r.length c5] rfl rfl (news_one hnr) (by simp [Value.oneCell']) (by unfold maxLen; omega) (by omega) (by simp; omega) ?_; intro v8 w8 o8 hg8 _ _)
          have b8 := b1.trans (app1' OO.out b1.size hg8)
          go_roundw
          case rel =>
            refine ⟨k + 1, cs ++ [.slice A5 r.length c5], L' ++ [r], by omega, by omega, Lib.hid (by rw [List.length_append, HK.out]; rfl), by go_num, o8, Lib.hid ?_, Lib.hid ?_, b8⟩
            · exact (HRX.out.below ((Below.refl _ _).alloc (Nat.le_refl _) _)).grown (OO.out.alloc _) (by decide) hg8
            · intro j hj
              rw [List.length_append, List.length_singleton] at hj
              rw [getl_app]
              by_cases e : j < L'.length
              · rw [if_pos e]; exact HE.out j e
              · rw [if_neg e, if_pos (by omega)]; exact HRE.out
          case measure => simp [intOf]; omega
    · by_cases h1 : k < L.length
      · have h2 : ¬ (k : Int) < mo := fun h => hlt ⟨h1, h⟩
        have g1 : decide (k < L.length) = true := decide_eq_true h1
        have g2 : decide ((k : Int) < mo) = false := decide_eq_false h2
        obtain ⟨Av, cv, rfl, -⟩ := own_wr o0
        have HKK := Lib.hid (show k = min L.length mo.toNat by omega)
        have hkl := HK.out
        go_wp2
        go_ret
        subst hkl
        exact ⟨Av, cv, cs, L', rfl, HKK.out, HE.out, o0, HR.out, b0⟩
      · have g1 : decide (k < L.length) = false := decide_eq_false h1
        obtain ⟨Av, cv, rfl, -⟩ := own_wr o0
        have HKK := Lib.hid (show k = min L.length mo.toNat by omega)
        have hkl := HK.out
        go_wp2
        go_ret
        subst hkl
        exact ⟨Av, cv, cs, L', rfl, HKK.out, HE.out, o0, HR.out, b0⟩
end Go.Proofs.Ytokjdadgdfmffaa
