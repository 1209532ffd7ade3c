/- SealsOwn: the walk. -/
import Derived.Test.YtopeppnajbnfgaaHE
import Derived.Test.YtopeppnajbnfgaaGF
namespace Go.Proofs.Ytopeppnajbnfgaa
open Go.RowKit
set_option maxHeartbeats 1000000
set_option maxRecDepth 100000
/-- A slice of ints that may be written. -/
def Wrt (W : World) (N : Nat) (B : Option Addr) (n : Nat) : Prop := n ≤ maxLen ∧ (n = 0 ∨ ∃ g vs, B = some ⟨g, 0, none⟩ ∧ N ≤ g ∧ Row W g 3 vs ∧ n ≤ vs.length)
theorem Wrt.below {W W' : World} {N n : Nat} {B : Option Addr} (h : Wrt W N B n) (b : Below W.heap.size W W') : Wrt W' N B n := by
  refine ⟨h.1, h.2.imp id ?_⟩
  rintro ⟨g, vs, h1, h2, h3, h4⟩
  exact ⟨g, vs, h1, h2, h3.below b, h4⟩
theorem Wrt.mono {W : World} {N M n : Nat} {B : Option Addr} (h : Wrt W N B n) (hM : M ≤ N) : Wrt W M B n := by
  refine ⟨h.1, h.2.imp id ?_⟩
  rintro ⟨g, vs, h1, h2, h3, h4⟩
  exact ⟨g, vs, h1, by omega, h3, h4⟩
theorem Wrt.set {W : World} {N n : Nat} {B : Option Addr} (h : Wrt W N B n) (g k : Nat) (u : Value) : Wrt (W.setCell ⟨g, k, none⟩ u) N B n := by
  refine ⟨h.1, h.2.imp id ?_⟩
  rintro ⟨g', vs, h1, h2, h3, h4⟩
  by_cases e : g' = g
  · subst e
    exact ⟨g', vs.set k u, h1, h2, h3.set k u, by rw [List.length_set]; exact h4⟩
  · exact ⟨g', vs, h1, h2, h3.far (by exact e) u, h4⟩
theorem own_wrt {w : World} {N n : Nat} {v : Value} {xs : List Value} (h : w.ownsRow N 3 1 v n xs) : ∃ B d, v = .slice B n d ∧ n ≤ d ∧ d ≤ maxLen ∧ Wrt w N B n := by
  rcases h.2 with ⟨rfl, rfl⟩ | ⟨g, cap, cur, rfl, hb, hg, hc, hm, hs, -⟩
  · exact ⟨none, 0, rfl, Nat.le_refl _, by simp, by simp, .inl rfl⟩
  · exact ⟨_, cap, rfl, hc, hm, Nat.le_trans hc hm, .inr ⟨g, cur.toList, rfl, hb, by unfold Row; rw [hg], by rw [Array.length_toList]; omega⟩⟩
theorem cut_wrt {s : ByteArray} {f step : Nat} {w w' : World} {e : Ending} (k : CutRes s f step w e w') : ∃ B n d, e = .returned (.tuple #[.slice B n d, .int .i64 0]) ∧ n ≤ d ∧ Wrt w' w.heap.size B n ∧ Below w.heap.size w w' := by
  obtain ⟨v, rfl, b, hv⟩ := k
  rcases hv with ⟨y, h1, h2⟩ | ⟨h1, rfl⟩
  · obtain ⟨B, d, rfl, h3, -, h4⟩ := own_wrt h2
    exact ⟨B, _, d, rfl, h3, h4, b⟩
  · exact ⟨none, 0, 0, rfl, Nat.le_refl _, ⟨by simp, .inl rfl⟩, b⟩
theorem cut_get {s : ByteArray} {f step : Nat} {w w' : World} {e : Ending} (k : CutRes s f step w e w') : ∃ A c, e = .returned (.tuple #[.slice A ((fewV s f step).getD []).length c, .int .i64 0]) ∧ IntsAt w' A ((fewV s f step).getD []) ∧ Below w.heap.size w w' := by
  obtain ⟨v, rfl, b, hv⟩ := k
  rcases hv with ⟨y, h1, h2⟩ | ⟨h1, rfl⟩
  · rw [h1]
    obtain ⟨A, c, rfl, -, -, hi⟩ := own_intsI h2
    exact ⟨A, c, rfl, hi, b⟩
  · rw [h1]
    exact ⟨none, 0, rfl, fun h => absurd h (by simp), b⟩
theorem own_cap {w : World} {N n : Nat} {v : Value} {xs : List Value} (h : w.ownsRow N 3 1 v n xs) {A : Option Addr} {l c : Nat} (e : v = .slice A l c) : c ≤ maxLen := by
  obtain ⟨B, d, rfl, -, h3, -⟩ := own_wrt h
  injection e with _ _ e
  omega
/-- Three slices in a row, all of which may be written. -/
def AllW (W : World) (N G : Nat) : Prop := (∃ cs, Row W G 23 cs) ∧ ∀ j, j < 3 → ∃ B n d, W.cell? ⟨G, j, none⟩ = some (.slice B n d) ∧ n ≤ d ∧ Wrt W N B n
theorem row_ne {W : World} {g G : Nat} {vs cs : List Value} (h : Row W g 3 vs) (h2 : Row W G 23 cs) : g ≠ G := fun e => by
  subst e
  unfold Row at h h2
  rw [h] at h2
  injection h2 with h2
  injection h2 with _ h2
  cases h2
theorem AllW.set {W : World} {N G g k : Nat} (h : AllW W N G) {vs : List Value} (hr : Row W g 3 vs) (u : Value) : AllW (W.setCell ⟨g, k, none⟩ u) N G := by
  obtain ⟨⟨cs, hG⟩, h2⟩ := h
  have hne := row_ne hr hG
  refine ⟨⟨cs, hG.far (by exact Ne.symm hne) u⟩, fun j hj => ?_⟩
  obtain ⟨B, n, d, h3, h4, h5⟩ := h2 j hj
  exact ⟨B, n, d, (World.cell?_of_block (Below.heap_setCell W ⟨g, k, none⟩ u G (by exact Ne.symm hne))).trans h3, h4, h5.set g k u⟩
theorem asc_len {n : Nat} : ∀ (k f : Nat) {y : List Int}, AscL n k f y → y.length = k
  | 0, _, y, h => by
    have h : y = [] := h
    rw [h]; rfl
  | k + 1, f, y, ⟨i, y', _, h2, h3⟩ => by rw [h2, List.length_cons, asc_len k _ h3]
theorem fewL_len (s : ByteArray) : ∀ (r m : Nat), ((fewL s 1 1 r m).getD []).length ≤ 4
  | 0, _ => by simp [fewL]
  | r + 1, m => by
    by_cases h : 4 < m
    · rw [fewL_over h]; simp
    · rw [fewL_step h]
      cases hf : (exts s.size m [] 1).find? (fairV s) with
      | none => exact fewL_len s r (m + 1)
      | some x =>
        have := asc_len _ _ (mem_exts0.1 (List.mem_of_find?_eq_some hf))
        show x.length ≤ 4
        omega
theorem few_len (s : ByteArray) : ((fewV s 1 1).getD []).length ≤ 4 := fewL_len s 6 0
theorem SealsOwn_any (str : ByteArray) (A : Option Addr) (c : Nat) (xs : List Int) (w : World) (hstr : str.size ≤ maxLen) (hx : xs.length ≤ c) (hc : c ≤ maxLen) (ha : IntsAt w A xs) :
    Calls Try.prog 13 #[.string str, .slice A xs.length c] w fun e w' => e = .returned (.bool true) ∧ Below w.heap.size w w' := by
  have HEV := Lib.hid (even_any str w hstr)
  have HAW := Lib.hid awake_any
  go_enter Try.func13, Try.ntmps13
  go_wp2_with (go_at_call 37; fail)
  refine HEV.out.mono ?_
  rintro e w1 ⟨t, rfl, ⟨hch, hev⟩, b1⟩
  have hts := chV_size hch
  have hce : (chV t && evV t) = true := by rw [hch, hev]; rfl
  have HL := Lib.hid (fun w => (Least_any t w hce).mono fun e w' h => cut_wrt h)
  have HG := Lib.hid (fun w => (Least_any t w hce).mono fun e w' h => cut_get h)
  have HRI := Lib.hid (fun w => (Ring_any t w hce).mono fun e w' h => cut_wrt h)
  have HH := Lib.hid (fun w => Halves_any t w hch)
  have HRL := Lib.hid (fun w => RefLeast_any t w hch hev)
  go_wp2_with (go_at_call 26; fail)
  refine (list_copy_any A c xs w1 hx hc (ha.below b1)).mono ?_
  rintro e w2 ⟨v2, n2, rfl, o2, b2⟩
  have hyl : (xs.take 30).length ≤ 30 := by rw [List.length_take]; omega
  generalize xs.take 30 = ys at *
  obtain ⟨A2, c2, hv2, hc2, i2, sl2⟩ := own_sl o2
  have hcm := own_cap o2 hv2
  subst hv2
  clear o2
  replace b1 := b1.trans (b2.mono b1.size)
  go_wp2_with (go_at_call 26; fail)
  refine (list_copy_any A2 c2 ys w2 hc2 hcm i2).mono ?_
  rw [List.take_of_length_le hyl]
  rintro e w3 ⟨v3, n3, rfl, o3, b3⟩
  obtain ⟨A3, c3, rfl, hc3, i3, sl3⟩ := own_sl o3
  clear o3
  replace i2 := i2.below b3
  replace b1 := b1.trans (b3.mono b1.size)
  have HCK := Lib.hid (fun w (h : IntsAt w A2 ys) => Check_any t A2 c2 ys w (by omega) hc2 h)
  have HSH := Lib.hid (fun w (h : IntsAt w A2 ys) => Shares_any t A2 c2 ys w (by omega) hc2 sl2 h)
  clear b2 b3 hcm hx hc ha
  go_wp2_with (go_at_call 16; fail)
  refine (HL.out _).mono ?_
  rintro e w4 ⟨B0, n0, d0, rfl, hn0, h0, bb⟩
  go_wp2_with (go_at_call 33; fail)
  refine (HRI.out _).mono ?_
  rintro e w5 ⟨B1, n1, d1, rfl, hn1, h1, b5⟩
  replace h0 := h0.below b5
  replace h1 := h1.mono bb.size
  replace bb := bb.trans (b5.mono bb.size)
  clear b5
  go_wp2_with (go_at_call 30; fail)
  refine (HH.out _).mono ?_
  rintro e w6 ⟨g2, rfl, hg2, hr2, b6⟩
  replace h0 := h0.below b6
  replace h1 := h1.below b6
  have h2 : Wrt w6 w3.heap.size (some ⟨g2, 0, none⟩) (t.size + 1) := ⟨by unfold maxLen; omega, .inr ⟨g2, _, rfl, by have := bb.size; omega, hr2, by rw [iv_len, hlvL_len]; exact Nat.le_refl _⟩⟩
  replace bb := bb.trans (b6.mono bb.size)
  clear b6 hr2 hg2
  go_wp2_with (first
    | (go_at_call 19; refine (HCK.out _ (i2.below bb)).mono ?_; rintro e w7 ⟨rfl, b7⟩; replace h0 := h0.below b7; replace h1 := h1.below b7; replace h2 := h2.below b7; replace bb := bb.trans (b7.mono bb.size); clear b7)
    | (go_at_call 27; refine (HSH.out _ (i2.below bb)).mono ?_; rintro e w8 ⟨rfl, b8⟩; replace h0 := h0.below b8; replace h1 := h1.below b8; replace h2 := h2.below b8; replace bb := bb.trans (b8.mono bb.size); clear b8))
  have rG : Row (w8.alloc (.cells #[.slice B0 n0 d0, .slice B1 n1 d1, .slice (some ⟨g2, 0, none⟩) (t.size + 1) (t.size + 1)] 23)) w8.heap.size 23 [.slice B0 n0 d0, .slice B1 n1 d1, .slice (some ⟨g2, 0, none⟩) (t.size + 1) (t.size + 1)] := row_new rfl
  have bA : Below w8.heap.size w8 (w8.alloc (.cells #[.slice B0 n0 d0, .slice B1 n1 d1, .slice (some ⟨g2, 0, none⟩) (t.size + 1) (t.size + 1)] 23)) := (Below.refl _ w8).alloc (Nat.le_refl _) _
  have all0 : AllW (w8.alloc (.cells #[.slice B0 n0 d0, .slice B1 n1 d1, .slice (some ⟨g2, 0, none⟩) (t.size + 1) (t.size + 1)] 23)) w3.heap.size w8.heap.size := ⟨⟨_, rG⟩, fun j hj => by
    rcases j with _ | _ | _ | j
    · exact ⟨_, _, _, rG.cell 0, hn0, h0.below bA⟩
    · exact ⟨_, _, _, rG.cell 1, hn1, h1.below bA⟩
    · exact ⟨_, _, _, rG.cell 2, Nat.le_refl _, h2.below bA⟩
    · omega⟩
  have bb0 := bb.trans (bA.mono bb.size)
  generalize w8.heap.size = G at *
  clear rG bA h0 h1 h2 bb hn0 hn1
  generalize World.alloc w8 _ = w9 at *
  go_loopw [15] (fun i wr => ∃ j : Nat, i = .int .i64 j ∧ j ≤ 3 ∧ AllW wr w3.heap.size G ∧ Below w3.heap.size w3 wr) (fun i _ => 10 - (intOf i).toNat)
  case atStart => exact ⟨0, rfl, by omega, all0, bb0⟩
  case round =>
    clear all0 bb0
    obtain ⟨j, rfl, hj, all, bb⟩ := hrel
    by_cases hj3 : j < 3
    · have g1 : decide ((j : Int) < 3) = true := decide_eq_true (by omega)
      obtain ⟨B, n, d, hcell, hnd, hwr⟩ := all.2 j hj3
      have hnm := hwr.1
      unfold maxLen at hnm
      go_wp2
      go_loopw [16] (fun i wr => ∃ k : Nat, i = .int .i64 k ∧ k ≤ n ∧ AllW wr w3.heap.size G ∧ wr.cell? ⟨G, j, none⟩ = some (.slice B n d) ∧ Wrt wr w3.heap.size B n ∧ Below w3.heap.size w3 wr) (fun i _ => n - (intOf i).toNat)
      case atStart => exact ⟨0, rfl, Nat.zero_le _, all, hcell, hwr, bb⟩
      case round =>
        clear all hcell hwr bb
        obtain ⟨k, rfl, hk, all, hcell, hwr, bb⟩ := hrel
        by_cases hkn : k < n
        · have g2 : decide ((k : Int) < n) = true := decide_eq_true (by omega)
          rcases hwr.2 with h0 | ⟨g, vs, rfl, hg, hr, hl⟩
          · omega
          · have hG := all.1
            obtain ⟨cs, hG⟩ := hG
            have hne := row_ne hr hG
            have cg : wr.cell? ⟨g, k, none⟩ = some vs[k] := by rw [hr.cell, List.getElem?_eq_getElem (by omega)]
            have fg : wr.frozen? ⟨g, k, none⟩ = false := hr.free _
            have all' := all.set (k := k) hr (.int .i64 (-7))
            have hwr' := hwr.set g k (.int .i64 (-7))
            have hcell' : (wr.setCell ⟨g, k, none⟩ (.int .i64 (-7))).cell? ⟨G, j, none⟩ = some (.slice (some ⟨g, 0, none⟩) n d) := (World.cell?_of_block (Below.heap_setCell wr ⟨g, k, none⟩ _ G (by exact Ne.symm hne))).trans hcell
            have bb' := bb.setCell (p := ⟨g, k, none⟩) (by dsimp only; omega) (.int .i64 (-7))
            clear all hwr bb hr hG
            generalize vs[k] = old at *
            go_wp2
            go_roundw
            case rel => exact ⟨k + 1, by go_num, by omega, all', hcell', hwr', bb'⟩
            case measure => simp [intOf]; omega
        · have g2 : decide ((k : Int) < n) = false := decide_eq_false (by omega)
          go_wp2
          go_roundw
          case rel => exact ⟨j + 1, by go_num, by omega, all, bb⟩
          case measure => simp [intOf]; omega
    · obtain rfl : j = 3 := by omega
      clear all
      have HI1 := Lib.hid (fun A C c d w (h1 : IntsAt w A ys) (h2 : IntsAt w C ys) => ints_yes A C c d ys _ w rfl (by omega) h1 h2)
      have hfl : ((fewV t 1 1).getD []).length ≤ 4 := few_len t
      generalize hzs : (fewV t 1 1).getD [] = zs at *
      have HZS := Lib.hid hzs
      clear hzs
      have HI2 := Lib.hid (fun A C c d w (h1 : IntsAt w A zs) (h2 : IntsAt w C zs) => ints_yes A C c d zs _ w rfl (by omega) h1 h2)
      go_wp2_with (go_at_call 16; fail)
      refine (HG.out _).mono ?_
      rintro e wa ⟨Aa, ca, rfl, ia, ba⟩
      replace bb := bb.trans (ba.mono bb.size)
      go_wp2_with (go_at_call 24; fail)
      refine (HI1.out _ _ _ _ _ (i2.below bb) (i3.below bb)).mono ?_
      rintro e wb ⟨rfl, nb, rfl⟩
      replace ia := ia.drewN nb
      replace bb := bb.trans (below_drewN nb)
      generalize World.drewN _ nb = wb at *
      go_wp2_with (go_at_call 25; fail)
      refine (HRL.out _).mono ?_
      rintro e wc ⟨Ac, cc, ws, rfl, bc, ic, hws⟩
      rw [HZS.out] at hws
      subst hws
      replace ia := ia.below bc
      replace bb := bb.trans (bc.mono bb.size)
      go_wp2_with (go_at_call 24; fail)
      refine (HI2.out _ _ _ _ _ ia ic).mono ?_
      rintro e wd ⟨rfl, nd, rfl⟩
      replace bb := bb.trans (below_drewN nd)
      generalize World.drewN _ nd = wd at *
      go_wp2_with (go_at_call 20; with_reducible refine (HAW.out _).mono ?_; rintro e we ⟨rfl, be⟩; replace bb := bb.trans (be.mono bb.size))
      go_ret
      exact ⟨rfl, b1.trans (bb.mono b1.size)⟩
end Go.Proofs.Ytopeppnajbnfgaa
