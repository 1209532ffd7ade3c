/- The word by which a search has come to a set. -/
import Derived.Test.YtignbpipdfjkeaaDoorAI
namespace Go.Proofs.YtignbpipdfjkeaaDoor
open Go.RowKit Go.Sort
set_option maxHeartbeats 1000000
set_option maxRecDepth 100000
/-- A word as bytes. -/
def wI (w : List Nat) : List Int := w.map (fun b : Nat => (97 + (b : Int) : Int))
def wS (w : List Nat) : ByteArray := strOfNums (wI w)
def bv (xs : List Int) : List Value := xs.map (Value.int .u8)
theorem info5 : (Tryd.prog.info? 5).map (fun i => (i.zero, i.size, i.bytes)) = some (some (.int .u8 0), 1, 1) := by kernel_rfl
theorem bv_len (xs : List Int) : (bv xs).length = xs.length := by simp [bv]
theorem wI_len (x : List Nat) : (wI x).length = x.length := by simp [wI]
theorem geti_ba {xs : List Int} {i : Nat} (h : i < xs.length) : xs.toArray[i]! = geti xs i := by
  rw [geti_eq h]; simp [h]
/-- Bytes that the call owns, read. -/
theorem own_bytes {w : World} {b n : Nat} {v : Value} {xs : List Int} (h : w.ownsRow b 5 1 v n (bv xs)) (hn : 0 < n) : ∃ g c, v = .slice (some ⟨g, 0, none⟩) xs.toArray.size c ∧ b ≤ g ∧ g < w.heap.size ∧ Holds encB w g 0 xs.toArray := by
  have hl : xs.length = n := by have := h.1; rw [bv_len] at this; omega
  rcases h.2 with ⟨rfl, h0⟩ | ⟨g, cap, cur, rfl, hb, hg, hc, _, hs, ht⟩
  · omega
  · refine ⟨g, cap, by simp [hl], hb, (Array.getElem?_eq_some_iff.1 hg).1, fun i hi => ⟨?_, frozen_of_row w g _ _ _ hg⟩⟩
    have hi2 : i < xs.length := by simpa using hi
    rw [cell_of_row w g _ _ _ _ hg, Nat.zero_add]
    have e1 : cur.toList[i]? = (bv xs)[i]? := by rw [← ht, List.getElem?_take, if_pos (by omega)]
    rw [← Array.getElem?_toList, e1, geti_ba hi2]
    unfold bv encB
    rw [List.getElem?_map, List.getElem?_eq_getElem hi2, geti_eq hi2]; rfl
theorem below_putRow {B g : Nat} {a w : World} (h : Below B a w) (hg : B ≤ g) (n : Nat) (d : Array Int) : Below B a (putRow encB (Sort.ahead w n) g 0 d) :=
  h.trans ⟨rfl, rfl, rfl, by simp [putRow, mapBlock, Sort.ahead], fun k hk => by
    unfold putRow mapBlock Sort.ahead
    simp only [Array.getElem?_modify]
    rw [if_neg (by omega)]⟩
theorem wI_snoc (y : List Nat) (b : Nat) : (wI (b :: y)).reverse = (wI y).reverse ++ [97 + (b : Int)] := by simp [wI]
theorem bv_snoc (xs : List Int) (z : Int) : bv (xs ++ [z]) = bv xs ++ [.int .u8 z] := by simp [bv]
theorem conv_word {w : World} {g c : Nat} {x : List Nat} (h : Holds encB w g 0 (wI x).toArray) : (convert 101 9 (.slice (some ⟨g, 0, none⟩) x.length c)).run Tryd.prog w = .ok (.string (wS x)) w := by
  refine run_convert_bytes_arg (P := Tryd.prog) w 101 5 Tryd.underlying101 Tryd.underlying5 g 0 x.length c (wI x) (wI_len x) (fun i hi => ?_) 9 Tryd.underlying9
  have := (h i (by simpa [wI] using hi)).1
  rw [geti_ba (by rw [wI_len]; exact hi)] at this
  exact this
theorem wordTo_any (F : Nat → Option (Nat × Nat)) (R : Met) (g m s : Nat) (x : List Nat) (w : World) (hF : StepsOk F R) (hx : (s, x) ∈ R) (hl : x.length ≤ 1000) (h0 : x ≠ []) (hs : s < 512) (hm : MapAt w g m F) :
    Calls Tryd.prog 75 #[.int .u16 s, .map (some g)] w fun e w' => e = .returned (.string (wS x)) ∧ Below w.heap.size w w' := by
  obtain ⟨j0, ji, jz0, jz1, jz2⟩ := info_parts info5
  have b0 := Below.refl w.heap.size w
  have HL := Lib.hid (fun s (hs : s < 512) => hm.look (s := s) (by omega))
  have hl1 := HL.out s hs
  obtain ⟨p, hp⟩ : ∃ p, (F s).getD (0, 0) = p := ⟨_, rfl⟩
  rw [hp] at hl1
  unfold stepV at hl1
  go_enter Tryd.func75, Tryd.ntmps75
  go_wp2
  have r0 : Row (w.alloc (.cells #[.int .u16 p.1, .int .i64 p.2] 107)) w.heap.size 107 [.int .u16 p.1, .int .i64 p.2] := row_new rfl
  have o0 : (w.alloc (.cells #[.int .u16 p.1, .int .i64 p.2] 107)).ownsRow w.heap.size 5 1 (.slice none 0 0) (wI []).length (bv (wI []).reverse) := ⟨rfl, .inl ⟨rfl, rfl⟩⟩
  replace b0 := b0.alloc (Nat.le_refl _) (.cells #[.int .u16 (p.1 : Int), .int .i64 (p.2 : Int)] 107)
  have HX0 : Hid (x = x ++ [] ∧ (s, x) ∈ R ∧ (F s).getD (0, 0) = p) := Lib.hid ⟨by simp, hx, hp⟩
  have HFF := Lib.hid hF
  have HM := Lib.hid hm
  clear hx hp hF hm hl1
  go_loopw [5, 6] (fun v q wr => ∃ (u y : List Nat) (t G : Nat) (p : Nat × Nat), q = .pointer (some ⟨G, 0, none⟩) ∧ w.heap.size ≤ G ∧ Row wr G 107 [.int .u16 p.1, .int .i64 p.2] ∧ wr.ownsRow w.heap.size 5 1 v (wI y).length (bv (wI y).reverse) ∧ Below w.heap.size w wr ∧ Hid (x = u ++ y ∧ (t, u) ∈ R ∧ (F t).getD (0, 0) = p)) (fun v _ _ => x.length - slen v)
  case atStart => exact ⟨x, [], s, w.heap.size, p, rfl, Nat.le_refl _, r0, o0, b0, HX0⟩
  case round =>
    clear r0 o0 b0 HX0 hs
    obtain ⟨u, y, t, G, ⟨p0, b⟩, rfl, hG, r0, o0, b0, HX⟩ := hrel
    obtain ⟨hx, hu, hp⟩ := HX.out
    obtain ⟨c0, f0⟩ := r0.cells2
    rcases List.eq_nil_or_concat u with rfl | ⟨u, b', rfl⟩
    · rw [HFF.out.start t hu] at hp
      injection hp with hp1 hp2
      subst hp1 hp2
      have HXX : Hid (x = y) := Lib.hid (by rw [hx]; rfl)
      clear hu hx HX
      have hy : Hid (x = y) := Lib.hid HXX.out
      obtain rfl := HXX.out
      have hl2 : 0 < (wI x).length := by rw [wI_len]; exact List.length_pos_iff.2 h0
      obtain ⟨g5, c5, rfl, hg5, hg6, H5⟩ := own_bytes o0 (by simpa using hl2)
      have HRV := Lib.hid (reverse_any g5 0 c5 (wI x).reverse.toArray wr H5 (by simp [wI]; omega))
      have HCV : Hid (∀ n, (convert 101 9 (.slice (some ⟨g5, 0, none⟩) (wI x).reverse.toArray.size c5)).run Tryd.prog (putRow encB (Sort.ahead wr n) g5 0 (wI x).reverse.toArray.reverse) = .ok (.string (wS x)) (putRow encB (Sort.ahead wr n) g5 0 (wI x).reverse.toArray.reverse)) := Lib.hid (fun n => by
        have h1 := holds_putRow encB (Sort.ahead wr n) g5 0 (wI x).reverse.toArray (wI x).reverse.toArray.reverse (holds_ahead encB wr n g5 0 _ H5) (by simp)
        have e : (wI x).reverse.toArray.reverse = (wI x).toArray := by simp
        have e2 : (wI x).reverse.toArray.size = x.length := by simp [wI]
        rw [e] at h1 ⊢
        rw [e2]
        exact conv_word h1)
      have HB : Hid (∀ n, Below w.heap.size w (putRow encB (Sort.ahead wr n) g5 0 (wI x).reverse.toArray.reverse)) := Lib.hid (fun n => below_putRow b0 hg5 n _)
      have hsz : (wI x).reverse.toArray.size ≤ 1000 := by simp [wI]; omega
      clear H5 o0 hy hl2 h0
      generalize (wI x).reverse.toArray = Y at *
      go_wp2_with (go_at_call 78; refine HRV.out.mono ?_; rintro e w2 ⟨rfl, n5, rfl⟩; have hcv := HCV.out n5; have hbb := HB.out n5; generalize putRow encB _ _ _ _ = W2 at *)
      go_ret
      exact ⟨rfl, hbb⟩
    · rw [List.concat_eq_append] at hu hx
      obtain ⟨hb4, p', hp', hFt, hp0, hp5⟩ := HFF.out.step t u b' hu
      rw [hFt] at hp
      injection hp with hp1 hp2
      subst hp1 hp2
      obtain ⟨p2, hpe⟩ : ∃ p2, (F p').getD (0, 0) = p2 := ⟨_, rfl⟩
      have HX2 : Hid (x = u ++ (b' :: y) ∧ (p', u) ∈ R ∧ (F p').getD (0, 0) = p2) := Lib.hid ⟨by rw [hx]; simp, hp', hpe⟩
      have hxl : y.length < x.length := by rw [hx]; simp; omega
      have hnr : Row (wr.alloc (.cells #[.int .u8 (97 + (b' : Int))] 5)) wr.heap.size 5 [.int .u8 (97 + (b' : Int))] := row_new rfl
      have hbs := b0.size
      have HLK : Hid (∀ W, Below w.heap.size w W → (Instr.lookup 108 (.map (some g)) (.int .u16 p') false).run Tryd.prog W = .ok (stepV p2) W) := Lib.hid (fun W hW => by rw [← hpe]; exact (HM.out.below hW).look (by omega))
      unfold stepV at HLK
      have hslen := own_slen o0
      have hyl : (wI y).length = y.length := wI_len y
      have HSL := Lib.hid hslen
      have hyb : (wI y).length ≤ 1000 := by omega
      have HYL := Lib.hid hyl
      have g1 : ((p' : Int) == 0) = false := by simp; omega
      have g2 : ((p' : Int) != 0) = true := by simp; omega
      clear hu hx HX hp' hFt hpe hslen hyl
      go_wp2_with (at_builtin; refine wpList_append_own_at _ rfl _ _ 101 rfl w.heap.size 5 j0 (.int .u8 0) 1 1 Tryd.underlying101 ji jz0 jz1 jz2 rfl (by decide) _ _ _ rfl (o0.alloc _) ⟨wr.heap.size, 0, none⟩ 1 1 [.int .u8 (97 + (b' : Int))] rfl rfl (news_one hnr) (by simp [Value.oneCell']) (by unfold maxLen; omega) (by omega) (by simp; omega) ?_; intro v2 w2 o2 hg2 _ _; have b4 := b0.trans (app1' o0 hbs hg2); have r2 := (r0.alloc (.cells #[.int .u8 (97 + (b' : Int))] 5)).grown hg2 (r0.not_own o0 (by decide)); have b5 := b4.alloc b4.size (.cells #[.int .u16 (p' : Int), .int .i64 (b' : Int)] 107); obtain ⟨c2, f2⟩ := r2.cells2; have hlk := HLK.out _ b5; have r5 : Row (w2.alloc (.cells #[.int .u16 (p' : Int), .int .i64 (b' : Int)] 107)) w2.heap.size 107 [.int .u16 (p' : Int), .int .i64 (b' : Int)] := row_new rfl; have o5 := o2.alloc (.cells #[.int .u16 (p' : Int), .int .i64 (b' : Int)] 107))
      go_roundw
      case rel =>
        refine ⟨u, b' :: y, p', w2.heap.size, p2, rfl, b4.size, row_new rfl, ?_, b4.alloc b4.size _, HX2⟩
        rw [wI_snoc, bv_snoc, show (wI (b' :: y)).length = (wI y).length + 1 by simp [wI]]
        exact o2.alloc _
      case measure =>
        have e1 := own_slen o2
        have e2 := HSL.out
        have e3 := HYL.out
        rw [e1, e2, e3]; omega
end Go.Proofs.YtignbpipdfjkeaaDoor
