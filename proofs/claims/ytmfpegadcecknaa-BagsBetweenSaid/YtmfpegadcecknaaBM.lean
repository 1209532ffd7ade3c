/- A graph made from any list. -/
import Derived.Test.YtmfpegadcecknaaAV
namespace Go.Proofs.Ytmfpegadcecknaa
open Go.RowKit
attribute [local go_sem] Oper.semAt_some
set_option maxHeartbeats 1000000
set_option maxRecDepth 100000
theorem modI_lt (x : Int) {n : Nat} (h : 0 < n) : modI x n < n := Nat.mod_lt _ h
theorem news_two {W : World} {g : Nat} {t : TypeId} {x y : Value} (h : Row W g t [x, y]) : ∀ j u, [x, y][j]? = some u → W.cell? ((⟨g, 0, none⟩ : Addr).add j) = some u := by
  intro j u hj
  rw [WideShapes.add_plain, Nat.zero_add, h.cell, hj]
theorem app1' {W w5 : World} {n₀ : Nat} {e : TypeId} {z k : Nat} {v1 : Value} {xs : List Value} (h1 : W.ownsRow n₀ e z v1 k xs) (hn : n₀ ≤ W.heap.size) {o : Obj} (hgr : (W.alloc o).grownBy w5 v1.ownBlock) : Below n₀ W w5 := (app1 h1 hn hgr).1
theorem pv_snoc (ps : List (Int × Int)) (x y : Int) : pv (ps ++ [(x, y)]) = pv ps ++ [.int .i64 x, .int .i64 y] := by simp [pv]
theorem Graph_snoc (n : Int) (A : Option Addr) (c : Nat) (own : List (Int × Int)) (x y : Int) (w : World) (hl : own.length ≤ 130) (ha : PairsAt w A (own ++ [(x, y)])) :
    Calls Try.prog 16 #[.int .i64 n, .slice A (own.length + 1) c] w fun e w' => e = .returned (.bool (readF n (own ++ [(x, y)])).isSome) ∧ Below w.heap.size w w' := by
  have := Graph_any n A c (own ++ [(x, y)]) w (by simp; omega) ha
  rw [List.length_append] at this
  exact this
/-- A graph, or none yet. -/
def TameI (m : Nat) (k : Nat) (own : List (Int × Int)) : Prop := own.length ≤ k ∧ ∃ gs, readF m own = some gs
theorem TameI.start {m : Nat} (h : 1 ≤ m) (hm : m ≤ 16) : TameI m 0 [] := ⟨Nat.zero_le _, Z16, by unfold readF; rw [if_pos (by omega)]; rfl⟩
theorem tame_any (m : Nat) (A : Option Addr) (c : Nat) (es : List (Int × Int)) (w : World) (_hx : es.length ≤ c) (_hc : c ≤ maxLen) (ha : PairsAt w A es) (h1 : 1 ≤ m) (hm : m ≤ 16) :
    Calls Try.prog 37 #[.slice A es.length c, .int .i64 m] w fun e w' => ∃ v own gs, e = .returned v ∧ own.length ≤ 130 ∧ readF m own = some gs ∧ w'.ownsRow w.heap.size 67 2 v own.length (pv own) ∧ Below w.heap.size w w' := by
  obtain ⟨i0, hi, hz0, hz1, hz2⟩ := info_parts info67k
  unfold maxLen at _hc
  go_enter Try.func37, Try.ntmps37
  go_wp2
  go_loopw [5, 6] (fun o i wr => ∃ (k : Nat) (own : List (Int × Int)), k ≤ es.length ∧ k ≤ 130 ∧ i = .int .i64 k ∧ TameI m k own ∧ wr.ownsRow w.heap.size 67 2 o own.length (pv own) ∧ Below w.heap.size w wr) (fun _ i _ => es.length - (intOf i).toNat)
  case atStart => exact ⟨0, [], by omega, by omega, rfl, TameI.start h1 hm, ⟨rfl, .inl ⟨rfl, rfl⟩⟩, Below.refl _ _⟩
  case round =>
    obtain ⟨k, own, hk, hk130, rfl, ht, ho, hb⟩ := hrel
    have HT := Lib.hid ht
    obtain ⟨hol, gs, hgs⟩ := ht
    have HG := Lib.hid hgs
    clear hgs
    obtain ⟨A0, c0, rfl, -, hc0, p0⟩ := own_pairs ho
    have hc0m : c0 ≤ maxLen := by
      rcases ho.2 with ⟨h, _⟩ | ⟨g, cap, cur, h, _, _, _, hcm, _⟩
      · injection h with _ _ h; omega
      · injection h with _ _ h; omega
    by_cases hlt : k < es.length ∧ k < 130
    · obtain ⟨hlt, hlt2⟩ := hlt
      have HED := Lib.hid (fun (W : World) (hW : Below wr.heap.size wr W) => edges_any A0 c0 own W hc0 hc0m (p0.below hW))
      have HTK := Lib.hid (List.take_of_length_le (show own.length ≤ 130 by omega))
      obtain ⟨B, o, rfl, hB, hcc⟩ := (ha.below hb) (by omega)
      obtain ⟨x0, y0⟩ := hcc k hlt
      clear hcc p0 hc0 hc0m
      have ha1 := modI_lt (pA es k) h1
      have ha2 := modI_lt (pB es k) h1
      generalize pA es k = x at *
      generalize pB es k = y at *
      generalize hax : modI x m = a at *
      generalize hby : modI y m = b at *
      have HX := Lib.hid (fun w => by have := mod_any x m w h1 (by omega); rw [hax] at this; exact this : ∀ w, Calls Try.prog 36 #[.int .i64 x, .int .i64 m] w fun e w' => e = .returned (.int .i64 (a : Nat)) ∧ w = w')
      have HY := Lib.hid (fun w => by have := mod_any y m w h1 (by omega); rw [hby] at this; exact this : ∀ w, Calls Try.prog 36 #[.int .i64 y, .int .i64 m] w fun e w' => e = .returned (.int .i64 (b : Nat)) ∧ w = w')
      clear hax hby
      go_wp2
      go_quiet ((go_at_call 36; first | (with_reducible exact quiet_same (HX.out _)) | (with_reducible exact quiet_same (HY.out _))))
      rcases Nat.lt_trichotomy a b with hab | hab | hab
      · have E1 := Lib.hid (show (own ++ [((((a : Nat) : Int), ((b : Nat) : Int)))]).length = own.length + 1 by simp)
        cases hq : (readF m (own ++ [((((a : Nat) : Int), ((b : Nat) : Int)))])).isSome
        all_goals
          have HQ := Lib.hid hq
          clear hq
          go_wp2_with (first
            | (go_at_call 14; refine (HED.out _ (below_drewN nq)).mono ?_; rintro e w1 ⟨v1, n1, rfl, o1, b1⟩; rw [HTK.out] at o1; obtain ⟨A1, c1, rfl, rfl, -, p1⟩ := own_pairs o1; have hb1 : Below wr.heap.size wr w1 := (below_drewN nq).trans b1; have hz1' : wr.heap.size ≤ w1.heap.size := hb1.size)
            | (at_builtin; refine wpList_append_own_at _ rfl (.tmp 35) (.tmp 43) 22 rfl wr.heap.size 67 i0 _ 2 16 Try.underlying22 hi hz0 hz1 hz2 rfl (by omega) _ _ _ rfl (o1.alloc _) ⟨w1.heap.size, 0, none⟩ 1 1 [.int .i64 (a : Nat), .int .i64 (b : Nat)] rfl rfl (news_two (row_new rfl)) (by simp [Value.oneCell']) (by unfold maxLen; omega) (by omega) (by simp; omega) ?_; intro v2 w2 o2 hg2 _ _; have b2 := app1' o1 hz1' hg2; rw [← pv_snoc] at o2; obtain ⟨A2, c2, e2, -, -, p2⟩ := own_pairs o2; rw [E1.out] at e2; subst e2; have hb2 := hb1.trans b2; clear o1 p1 hg2 b2)
            | (go_at_call 16; refine (Graph_snoc m A2 c2 own a b _ (by omega) p2).mono ?_; rintro e w3 ⟨rfl, b3⟩; rw [HQ.out]; have hb3 := hb2.trans (b3.mono hb2.size); have hb4 := hb.trans (hb3.mono hb.size); have o3 := o2.kept' b3; have ho3 := ho.kept' hb3))
        · go_roundw
          case rel => exact ⟨k + 1, own, by omega, by omega, by go_num, ⟨by omega, _, HG.out⟩, ho3, hb4⟩
          case measure => simp [intOf]; omega
        · go_roundw
          case rel => exact ⟨k + 1, own ++ [((((a : Nat) : Int), ((b : Nat) : Int)))], by omega, by omega, by go_num, ⟨by rw [E1.out]; omega, Option.isSome_iff_exists.1 HQ.out⟩, by rw [E1.out]; exact own_mono o3 hb.size, hb4⟩
          case measure => simp [intOf]; omega
      · subst hab
        have E1 := Lib.hid (show (own ++ [((((a : Nat) : Int), ((a : Nat) : Int)))]).length = own.length + 1 by simp)
        cases hq : (readF m (own ++ [((((a : Nat) : Int), ((a : Nat) : Int)))])).isSome
        all_goals
          have HQ := Lib.hid hq
          clear hq
          go_wp2_with (first
            | (go_at_call 14; refine (HED.out _ (below_drewN nq)).mono ?_; rintro e w1 ⟨v1, n1, rfl, o1, b1⟩; rw [HTK.out] at o1; obtain ⟨A1, c1, rfl, rfl, -, p1⟩ := own_pairs o1; have hb1 : Below wr.heap.size wr w1 := (below_drewN nq).trans b1; have hz1' : wr.heap.size ≤ w1.heap.size := hb1.size)
            | (at_builtin; refine wpList_append_own_at _ rfl (.tmp 35) (.tmp 43) 22 rfl wr.heap.size 67 i0 _ 2 16 Try.underlying22 hi hz0 hz1 hz2 rfl (by omega) _ _ _ rfl (o1.alloc _) ⟨w1.heap.size, 0, none⟩ 1 1 [.int .i64 (a : Nat), .int .i64 (a : Nat)] rfl rfl (news_two (row_new rfl)) (by simp [Value.oneCell']) (by unfold maxLen; omega) (by omega) (by simp; omega) ?_; intro v2 w2 o2 hg2 _ _; have b2 := app1' o1 hz1' hg2; rw [← pv_snoc] at o2; obtain ⟨A2, c2, e2, -, -, p2⟩ := own_pairs o2; rw [E1.out] at e2; subst e2; have hb2 := hb1.trans b2; clear o1 p1 hg2 b2)
            | (go_at_call 16; refine (Graph_snoc m A2 c2 own a a _ (by omega) p2).mono ?_; rintro e w3 ⟨rfl, b3⟩; rw [HQ.out]; have hb3 := hb2.trans (b3.mono hb2.size); have hb4 := hb.trans (hb3.mono hb.size); have o3 := o2.kept' b3; have ho3 := ho.kept' hb3))
        · go_roundw
          case rel => exact ⟨k + 1, own, by omega, by omega, by go_num, ⟨by omega, _, HG.out⟩, ho3, hb4⟩
          case measure => simp [intOf]; omega
        · go_roundw
          case rel => exact ⟨k + 1, own ++ [((((a : Nat) : Int), ((a : Nat) : Int)))], by omega, by omega, by go_num, ⟨by rw [E1.out]; omega, Option.isSome_iff_exists.1 HQ.out⟩, by rw [E1.out]; exact own_mono o3 hb.size, hb4⟩
          case measure => simp [intOf]; omega
      · have E1 := Lib.hid (show (own ++ [((((b : Nat) : Int), ((a : Nat) : Int)))]).length = own.length + 1 by simp)
        cases hq : (readF m (own ++ [((((b : Nat) : Int), ((a : Nat) : Int)))])).isSome
        all_goals
          have HQ := Lib.hid hq
          clear hq
          go_wp2_with (first
            | (go_at_call 14; refine (HED.out _ (below_drewN nq)).mono ?_; rintro e w1 ⟨v1, n1, rfl, o1, b1⟩; rw [HTK.out] at o1; obtain ⟨A1, c1, rfl, rfl, -, p1⟩ := own_pairs o1; have hb1 : Below wr.heap.size wr w1 := (below_drewN nq).trans b1; have hz1' : wr.heap.size ≤ w1.heap.size := hb1.size)
            | (at_builtin; refine wpList_append_own_at _ rfl (.tmp 35) (.tmp 43) 22 rfl wr.heap.size 67 i0 _ 2 16 Try.underlying22 hi hz0 hz1 hz2 rfl (by omega) _ _ _ rfl (o1.alloc _) ⟨w1.heap.size, 0, none⟩ 1 1 [.int .i64 (b : Nat), .int .i64 (a : Nat)] rfl rfl (news_two (row_new rfl)) (by simp [Value.oneCell']) (by unfold maxLen; omega) (by omega) (by simp; omega) ?_; intro v2 w2 o2 hg2 _ _; have b2 := app1' o1 hz1' hg2; rw [← pv_snoc] at o2; obtain ⟨A2, c2, e2, -, -, p2⟩ := own_pairs o2; rw [E1.out] at e2; subst e2; have hb2 := hb1.trans b2; clear o1 p1 hg2 b2)
            | (go_at_call 16; refine (Graph_snoc m A2 c2 own b a _ (by omega) p2).mono ?_; rintro e w3 ⟨rfl, b3⟩; rw [HQ.out]; have hb3 := hb2.trans (b3.mono hb2.size); have hb4 := hb.trans (hb3.mono hb.size); have o3 := o2.kept' b3; have ho3 := ho.kept' hb3))
        · go_roundw
          case rel => exact ⟨k + 1, own, by omega, by omega, by go_num, ⟨by omega, _, HG.out⟩, ho3, hb4⟩
          case measure => simp [intOf]; omega
        · go_roundw
          case rel => exact ⟨k + 1, own ++ [((((b : Nat) : Int), ((a : Nat) : Int)))], by omega, by omega, by go_num, ⟨by rw [E1.out]; omega, Option.isSome_iff_exists.1 HQ.out⟩, by rw [E1.out]; exact own_mono o3 hb.size, hb4⟩
          case measure => simp [intOf]; omega
    · by_cases hlt3 : k < es.length
      · have hlt4 : ¬ k < 130 := fun h => hlt ⟨hlt3, h⟩
        clear hlt
        go_wp2
        go_ret
        exact ⟨_, own, gs, rfl, by omega, HG.out, ho, hb⟩
      · clear hlt
        go_wp2
        go_ret
        exact ⟨_, own, gs, rfl, by omega, HG.out, ho, hb⟩
end Go.Proofs.Ytmfpegadcecknaa
