/- Any string is made an even chain. -/
import Derived.Test.YtopeppnajbnfgaaFZ
import Derived.Lib.BufferRead
import Derived.Laws.IdiomStrings
namespace Go.Proofs.Ytopeppnajbnfgaa
open Go.RowKit
set_option maxHeartbeats 1000000
set_option maxRecDepth 100000
def bv (l : List UInt8) : List Value := l.map fun b => .int .u8 (b.toNat : Int)
abbrev bs (l : List UInt8) : ByteArray := ⟨l.toArray⟩
theorem bv_len (l : List UInt8) : (bv l).length = l.length := List.length_map _
theorem info5 : (Try.prog.info? 5).map (fun i => (i.zero, i.size, i.bytes)) = some (some (.int .u8 0), 1, 1) := by kernel_rfl
theorem bs_size (l : List UInt8) : (bs l).size = l.length := rfl
/-- The bytes of a row of the call's own, as a string. -/
theorem own_conv {w : World} {b n : Nat} {v : Value} {l : List UInt8} (h : w.ownsRow b 5 1 v n (bv l)) : (convert 48 9 v).run Try.prog w = .ok (.string (bs l)) w := by
  have hl : l.length = n := by have := h.1; rw [bv_len] at this; omega
  subst hl
  rcases h.2 with ⟨rfl, h0⟩ | ⟨g, cap, cur, rfl, hb, hg, hc, _, hs, ht⟩
  · have h00 : l = [] := List.eq_nil_of_length_eq_zero h0
    subst h00
    exact Lib.run_convert_nil_bytes w 48 9 5 0 Try.underlying48 Try.underlying5 Try.underlying9
  · refine run_convert_bytes_back w 48 9 5 ⟨g, 0, none⟩ cap l Try.underlying48 Try.underlying5 Try.underlying9 (fun j hj => ?_)
    have := h.cells (g := g) rfl j (.int .u8 (l[j].toNat : Int)) (by unfold bv; rw [List.getElem?_map, List.getElem?_eq_getElem hj]; rfl)
    exact this
theorem sb_bs {l : List UInt8} {i : Nat} (h : i < l.length) : sb (bs l) i = l[i].toNat := by
  unfold sb
  simp [Array.getD, h]
def Let (l : List UInt8) : Prop := ∀ b ∈ l, 97 ≤ b.toNat ∧ b.toNat < 101
theorem let_nil : Let [] := fun b hb => absurd hb (by simp)
theorem let_ok {l : List UInt8} (h : Let l) : ∀ i, i < (bs l).size → okC (bs l) i := fun i hi => by
  have hi2 : i < l.length := hi
  unfold okC
  rw [sb_bs hi2]
  exact h _ (List.getElem_mem hi2)
theorem let_snoc {l : List UInt8} {b : UInt8} (h : Let l) (hb : 97 ≤ b.toNat ∧ b.toNat < 101) : Let (l ++ [b]) := fun x hx => by
  rcases List.mem_append.1 hx with h1 | h1
  · exact h x h1
  · have : x = b := by simpa using h1
    rw [this]; exact hb
theorem tot_snoc (l : List UInt8) (b : UInt8) (c : Nat) : tot (bs (l ++ [b])) c = tot (bs l) c + if b.toNat = 97 + c then 1 else 0 := by
  have e : bs (l ++ [b]) = bs l ++ bs [b] := by
    apply ByteArray.ext
    rw [ByteArray.data_append]
    simp
  rw [e, tot_app]
  congr 1
  show (0 : Int) + (if sb (bs [b]) 0 = 97 + c then 1 else 0) = _
  rw [sb_bs (by simp)]
  simp
theorem ofNat_toNat {n : Nat} (h : n < 256) : (UInt8.ofNat n).toNat = n := by
  rw [UInt8.toNat_ofNat']; exact Nat.mod_eq_of_lt h
theorem own_turn3 {w W : World} {b n : Nat} {v : Value} {l : List Value} (h : w.ownsRow b 5 1 v n l) (b3 : Below w.heap.size w W) (cs : Array Value) : ((W.alloc (.cells Z4.toArray 46)).setRow W.heap.size cs).ownsRow b 5 1 v n l := by
  have h2 := (h.kept' b3).alloc (.cells Z4.toArray 46)
  refine ⟨h2.1, ?_⟩
  rcases (h.kept' b3).2 with hn | ⟨g, cap, cur, rfl, hb, hg, rest⟩
  · exact .inl hn
  · refine .inr ⟨g, cap, cur, rfl, hb, ?_, rest⟩
    have hl := (Array.getElem?_eq_some_iff.1 hg).1
    rw [setRow_other _ _ _ _ (by omega)]
    exact (Below.heap_alloc W _ g hl).trans hg
theorem even_any (s : ByteArray) (w : World) (hs : s.size ≤ maxLen) : Calls Try.prog 37 #[.string s, .int .i64 24] w fun e w' => ∃ t, e = .returned (.string t) ∧ (chV t = true ∧ evV t = true) ∧ Below w.heap.size w w' := by
  unfold maxLen at hs
  obtain ⟨i0, hi, hz0, hz1, hz2⟩ := info_parts info5
  have z46' := z46
  go_enter Try.func37, Try.ntmps37
  go_wp2
  go_loopw [5, 6] (fun v i wr => ∃ (k : Nat) (l : List UInt8), i = .int .i64 k ∧ k ≤ 20 ∧ k ≤ s.size ∧ l.length = k ∧ Let l ∧ wr.ownsRow w.heap.size 5 1 v k (bv l) ∧ Below w.heap.size w wr) (fun _ i _ => 20 - (intOf i).toNat)
  case atStart => exact ⟨0, [], rfl, by omega, by omega, rfl, let_nil, ⟨rfl, .inl ⟨rfl, rfl⟩⟩, Below.refl _ _⟩
  case round =>
    obtain ⟨k, l, rfl, hk, hks, hll, hlet, hown, hb⟩ := hrel
    by_cases h1 : k < s.size
    · by_cases h2 : k < 20
      · have g1 : decide ((k : Int) < s.size) = true := decide_eq_true (by omega)
        have g2 : decide ((k : Int) < 20) = true := decide_eq_true (by omega)
        obtain ⟨b, hbb⟩ : ∃ b : UInt8, b.toNat = 97 + s[k].toNat % 4 := ⟨UInt8.ofNat (97 + s[k].toNat % 4), ofNat_toNat (by omega)⟩
        have hlet2 : Let (l ++ [b]) := let_snoc hlet (by omega)
        have hbi : (97 : Int) + (s[k].toNat : Int) % 4 = (b.toNat : Int) := by omega
        have hbs := hb.size
        have HBI := Lib.hid hbi
        have HBB := Lib.hid hbb
        clear hbi hbb
        have hnr : Row (wr.alloc (.cells #[.int .u8 ((97 : Int) + (s[k].toNat : Int) % 4)] 5)) wr.heap.size 5 [.int .u8 ((97 : Int) + (s[k].toNat : Int) % 4)] := row_new rfl
        go_wp2_with (at_builtin; refine wpList_append_own_at _ rfl (.tmp 21) (.tmp 27) 48 rfl w.heap.size 5 i0 (.int .u8 0) 1 1 Try.underlying48 hi hz0 hz1 hz2 rfl (by decide) _ _ _ rfl (hown.alloc _) ⟨wr.heap.size, 0, none⟩ 1 1 [.int .u8 ((97 : Int) + (s[k].toNat : Int) % 4)] rfl rfl (news_one hnr) (by simp [Value.oneCell']) (by unfold maxLen; omega) (by omega) (by simp; omega) ?_; intro v2 w2 o2 hg2 _ _)
        have b2 := app1' hown hbs hg2
        go_roundw
        case rel =>
          refine ⟨k + 1, l ++ [b], by go_num, by omega, by omega, by simp [hll], hlet2, ?_, hb.trans b2⟩
          have e : bv (l ++ [b]) = bv l ++ [.int .u8 ((97 : Int) + (s[k].toNat : Int) % 4)] := by rw [HBI.out]; simp [bv]
          rw [e]; exact o2
        case measure => simp [intOf]; omega
      · have hk24 : l.length ≤ 20 := by omega
        have HLL := Lib.hid hll
        clear hll
        have g1 : decide ((k : Int) < s.size) = true := decide_eq_true (by omega)
        have g2 : decide ((k : Int) < 20) = false := decide_eq_false (by omega)
        have hz := hb.size
        have HL := Lib.hid (fun w => Letters_any (bs l) w (by rw [bs_size]; omega) (let_ok hlet))
        have hcv := own_conv hown
        have hi46 := info46_iv (x := sumL (bs l) (bs l).size) rfl
        go_wp2_with (first
          | (go_at_call 41; with_reducible refine (HL.out _).mono ?_; rintro e w3 ⟨rfl, b3⟩; have q3 : Row (w3.alloc (.cells Z4.toArray 46)) w3.heap.size 46 Z4 := row_new rfl)
          | ((with_reducible refine (?_ : wpList _ _ _ (Oper.mk none _ _ _ _ _ :: _) _ _)); refine wpList_store_row rfl 46 (.tmp 7) (.tmp 31) rfl w3.heap.size (iv (sumL (bs l) (bs l).size)).toArray rfl rfl 46 Z4.toArray (row_heap q3) hi46 (size51_iv rfl) (iv_all _) ?_; have q4 := q3.row (iv (sumL (bs l) (bs l).size)); have b4 := below_row (g := w3.heap.size) ((hb.trans (b3.mono hb.size)).alloc (by have := hb.size; have := b3.size; omega) (.cells Z4.toArray 46)) (by have := hb.size; have := b3.size; omega) (iv (sumL (bs l) (bs l).size)).toArray; have o4 := own_turn3 hown b3 (iv (sumL (bs l) (bs l).size)).toArray; have hg7 : w.heap.size ≤ w3.heap.size := (by have := hb.size; have := b3.size; omega); generalize hw4 : World.setRow _ _ _ = w4 at *; generalize w3.heap.size = g7 at *; clear q3 b3 hw4))
        have HLET := Lib.hid hlet
        clear hlet
        go_loopw [5, 8] (fun v i wr => ∃ (c : Nat) (l2 : List UInt8), i = .int .i64 c ∧ c ≤ 4 ∧ Hid (l2.length ≤ l.length + c ∧ Let l2 ∧ (∀ d, d < c → tot (bs l2) d % 2 = 0) ∧ ∀ d, c ≤ d → tot (bs l2) d = tot (bs l) d) ∧ wr.ownsRow w.heap.size 5 1 v l2.length (bv l2) ∧ Row wr g7 46 (iv (sumL (bs l) (bs l).size)) ∧ Below w.heap.size w wr) (fun _ i _ => 4 - (intOf i).toNat)
        case atStart => exact ⟨0, l, rfl, by omega, Lib.hid ⟨by omega, HLET.out, fun d hd => absurd hd (by omega), fun d _ => rfl⟩, by rw [HLL.out]; exact o4, q4, b4⟩
        case round =>
          clear o4 q4 b4 hown hb hcv
          obtain ⟨c, l2, rfl, hc, HP, o5, q5, b5⟩ := hrel
          by_cases hc4 : c < 4
          · have d0 : wr.cell? ⟨g7, c, none⟩ = some (.int .i64 (tot (bs l) c)) := by
              have := ivR q5 (i := c) hc4
              rwa [sumL_at _ _ hc4] at this
            have hn0 : 0 ≤ tot (bs l) c := (cnt_rng _ _ _).1
            have HTC := Lib.hid (HP.out.2.2.2 c (Nat.le_refl _))
            have hb5 := b5.size
            cases g3 : (tot (bs l) c % 2 == 1)
            · have HM := Lib.hid (show tot (bs l) c % 2 = 0 by simp only [beq_eq_false_iff_ne] at g3; omega)
              generalize tot (bs l) c = x at *
              go_wp2
              go_roundw
              case rel =>
                refine ⟨c + 1, l2, by go_num, by omega, Lib.hid ⟨by have := HP.out.1; omega, HP.out.2.1, fun d hd => ?_, fun d hd => HP.out.2.2.2 d (by omega)⟩, o5, q5, b5⟩
                by_cases e : d = c
                · subst e; rw [HTC.out]; exact HM.out
                · exact HP.out.2.2.1 d (by omega)
              case measure => simp [intOf]; omega
            · have HM := Lib.hid (show tot (bs l) c % 2 = 1 by simpa using g3)
              obtain ⟨b, hbb⟩ : ∃ b : UInt8, b.toNat = 97 + c := ⟨UInt8.ofNat (97 + c), ofNat_toNat (by omega)⟩
              have HBB := Lib.hid hbb
              have hlet2 : Let (l2 ++ [b]) := let_snoc HP.out.2.1 (by omega)
              have hlen2 := HP.out.1
              have HTS := Lib.hid (fun d => tot_snoc l2 b d)
              clear hbb
              generalize tot (bs l) c = x at *
              have hwr : IntKind.u8.wrap (97 + (c : Int)) = 97 + (c : Int) := by
                have : IntKind.u8.wrap (97 + (c : Int)) = (97 + (c : Int)) % 256 := by simp [IntKind.wrap, IntKind.bits, IntKind.signed]
                rw [this]; omega
              have hnr : ∀ W : World, Row (W.alloc (.cells #[.int .u8 ((97 : Int) + (c : Int))] 5)) W.heap.size 5 [.int .u8 ((97 : Int) + (c : Int))] := fun W => row_new rfl
              go_wp2_with (at_builtin; refine wpList_append_own_at _ rfl (.tmp 41) (.tmp 45) 48 rfl w.heap.size 5 i0 (.int .u8 0) 1 1 Try.underlying48 hi hz0 hz1 hz2 rfl (by decide) _ _ _ rfl (o5.alloc _) ⟨_, 0, none⟩ 1 1 [.int .u8 ((97 : Int) + (c : Int))] rfl rfl (news_one (hnr _)) (by simp [Value.oneCell']) (by unfold maxLen; omega) (by omega) (by simp; omega) ?_; intro v2 w2 o2 hg2 _ _)
              have b6 := app1' o5 hb5 hg2
              have q6 : Row w2 g7 46 (iv (sumL (bs l) (bs l).size)) := (q5.alloc _).grown hg2 (q5.not_own o5 (by decide))
              go_roundw
              case rel =>
                refine ⟨c + 1, l2 ++ [b], by go_num, by omega, Lib.hid ⟨by simp; omega, hlet2, fun d hd => ?_, fun d hd => ?_⟩, ?_, q6, b5.trans b6⟩
                · rw [HTS.out]
                  by_cases e : d = c
                  · subst e
                    rw [HTC.out, if_pos HBB.out]
                    have := HM.out
                    omega
                  · rw [if_neg (by rw [HBB.out]; omega)]
                    have := HP.out.2.2.1 d (by omega)
                    omega
                · rw [HTS.out, if_neg (by rw [HBB.out]; omega)]
                  have := HP.out.2.2.2 d (by omega)
                  omega
                · have e : bv (l2 ++ [b]) = bv l2 ++ [.int .u8 ((97 : Int) + (c : Int))] := by
                    have := HBB.out
                    simp [bv, this]
                  rw [e, List.length_append]; exact o2
              case measure => simp [intOf]; omega
          · obtain rfl : c = 4 := by omega
            have hcv2 := own_conv o5
            have HF := Lib.hid (show chV (bs l2) = true ∧ evV (bs l2) = true from ⟨decide_eq_true ⟨by rw [bs_size]; have := HP.out.1; omega, let_ok HP.out.2.1⟩, (evV_iff _).2 fun d hd => HP.out.2.2.1 d hd⟩)
            go_wp2
            go_ret
            exact ⟨bs l2, rfl, HF.out, b5⟩
    · have hk24 : l.length ≤ 20 := by omega
      have HLL := Lib.hid hll
      clear hll
      have g1 : decide ((k : Int) < s.size) = false := decide_eq_false (by omega)
      have hz := hb.size
      have HL := Lib.hid (fun w => Letters_any (bs l) w (by rw [bs_size]; omega) (let_ok hlet))
      have hcv := own_conv hown
      have hi46 := info46_iv (x := sumL (bs l) (bs l).size) rfl
      go_wp2_with (first
        | (go_at_call 41; with_reducible refine (HL.out _).mono ?_; rintro e w3 ⟨rfl, b3⟩; have q3 : Row (w3.alloc (.cells Z4.toArray 46)) w3.heap.size 46 Z4 := row_new rfl)
        | ((with_reducible refine (?_ : wpList _ _ _ (Oper.mk none _ _ _ _ _ :: _) _ _)); refine wpList_store_row rfl 46 (.tmp 7) (.tmp 31) rfl w3.heap.size (iv (sumL (bs l) (bs l).size)).toArray rfl rfl 46 Z4.toArray (row_heap q3) hi46 (size51_iv rfl) (iv_all _) ?_; have q4 := q3.row (iv (sumL (bs l) (bs l).size)); have b4 := below_row (g := w3.heap.size) ((hb.trans (b3.mono hb.size)).alloc (by have := hb.size; have := b3.size; omega) (.cells Z4.toArray 46)) (by have := hb.size; have := b3.size; omega) (iv (sumL (bs l) (bs l).size)).toArray; have o4 := own_turn3 hown b3 (iv (sumL (bs l) (bs l).size)).toArray; have hg7 : w.heap.size ≤ w3.heap.size := (by have := hb.size; have := b3.size; omega); generalize hw4 : World.setRow _ _ _ = w4 at *; generalize w3.heap.size = g7 at *; clear q3 b3 hw4))
      have HLET := Lib.hid hlet
      clear hlet
      go_loopw [5, 8] (fun v i wr => ∃ (c : Nat) (l2 : List UInt8), i = .int .i64 c ∧ c ≤ 4 ∧ Hid (l2.length ≤ l.length + c ∧ Let l2 ∧ (∀ d, d < c → tot (bs l2) d % 2 = 0) ∧ ∀ d, c ≤ d → tot (bs l2) d = tot (bs l) d) ∧ wr.ownsRow w.heap.size 5 1 v l2.length (bv l2) ∧ Row wr g7 46 (iv (sumL (bs l) (bs l).size)) ∧ Below w.heap.size w wr) (fun _ i _ => 4 - (intOf i).toNat)
      case atStart => exact ⟨0, l, rfl, by omega, Lib.hid ⟨by omega, HLET.out, fun d hd => absurd hd (by omega), fun d _ => rfl⟩, by rw [HLL.out]; exact o4, q4, b4⟩
      case round =>
        clear o4 q4 b4 hown hb hcv
        obtain ⟨c, l2, rfl, hc, HP, o5, q5, b5⟩ := hrel
        by_cases hc4 : c < 4
        · have d0 : wr.cell? ⟨g7, c, none⟩ = some (.int .i64 (tot (bs l) c)) := by
            have := ivR q5 (i := c) hc4
            rwa [sumL_at _ _ hc4] at this
          have hn0 : 0 ≤ tot (bs l) c := (cnt_rng _ _ _).1
          have HTC := Lib.hid (HP.out.2.2.2 c (Nat.le_refl _))
          have hb5 := b5.size
          cases g3 : (tot (bs l) c % 2 == 1)
          · have HM := Lib.hid (show tot (bs l) c % 2 = 0 by simp only [beq_eq_false_iff_ne] at g3; omega)
            generalize tot (bs l) c = x at *
            go_wp2
            go_roundw
            case rel =>
              refine ⟨c + 1, l2, by go_num, by omega, Lib.hid ⟨by have := HP.out.1; omega, HP.out.2.1, fun d hd => ?_, fun d hd => HP.out.2.2.2 d (by omega)⟩, o5, q5, b5⟩
              by_cases e : d = c
              · subst e; rw [HTC.out]; exact HM.out
              · exact HP.out.2.2.1 d (by omega)
            case measure => simp [intOf]; omega
          · have HM := Lib.hid (show tot (bs l) c % 2 = 1 by simpa using g3)
            obtain ⟨b, hbb⟩ : ∃ b : UInt8, b.toNat = 97 + c := ⟨UInt8.ofNat (97 + c), ofNat_toNat (by omega)⟩
            have HBB := Lib.hid hbb
            have hlet2 : Let (l2 ++ [b]) := let_snoc HP.out.2.1 (by omega)
            have hlen2 := HP.out.1
            have HTS := Lib.hid (fun d => tot_snoc l2 b d)
            clear hbb
            generalize tot (bs l) c = x at *
            have hwr : IntKind.u8.wrap (97 + (c : Int)) = 97 + (c : Int) := by
              have : IntKind.u8.wrap (97 + (c : Int)) = (97 + (c : Int)) % 256 := by simp [IntKind.wrap, IntKind.bits, IntKind.signed]
              rw [this]; omega
            have hnr : ∀ W : World, Row (W.alloc (.cells #[.int .u8 ((97 : Int) + (c : Int))] 5)) W.heap.size 5 [.int .u8 ((97 : Int) + (c : Int))] := fun W => row_new rfl
            go_wp2_with (at_builtin; refine wpList_append_own_at _ rfl (.tmp 41) (.tmp 45) 48 rfl w.heap.size 5 i0 (.int .u8 0) 1 1 Try.underlying48 hi hz0 hz1 hz2 rfl (by decide) _ _ _ rfl (o5.alloc _) ⟨_, 0, none⟩ 1 1 [.int .u8 ((97 : Int) + (c : Int))] rfl rfl (news_one (hnr _)) (by simp [Value.oneCell']) (by unfold maxLen; omega) (by omega) (by simp; omega) ?_; intro v2 w2 o2 hg2 _ _)
            have b6 := app1' o5 hb5 hg2
            have q6 : Row w2 g7 46 (iv (sumL (bs l) (bs l).size)) := (q5.alloc _).grown hg2 (q5.not_own o5 (by decide))
            go_roundw
            case rel =>
              refine ⟨c + 1, l2 ++ [b], by go_num, by omega, Lib.hid ⟨by simp; omega, hlet2, fun d hd => ?_, fun d hd => ?_⟩, ?_, q6, b5.trans b6⟩
              · rw [HTS.out]
                by_cases e : d = c
                · subst e
                  rw [HTC.out, if_pos HBB.out]
                  have := HM.out
                  omega
                · rw [if_neg (by rw [HBB.out]; omega)]
                  have := HP.out.2.2.1 d (by omega)
                  omega
              · rw [HTS.out, if_neg (by rw [HBB.out]; omega)]
                have := HP.out.2.2.2 d (by omega)
                omega
              · have e : bv (l2 ++ [b]) = bv l2 ++ [.int .u8 ((97 : Int) + (c : Int))] := by
                  have := HBB.out
                  simp [bv, this]
                rw [e, List.length_append]; exact o2
            case measure => simp [intOf]; omega
        · obtain rfl : c = 4 := by omega
          have hcv2 := own_conv o5
          have HF := Lib.hid (show chV (bs l2) = true ∧ evV (bs l2) = true from ⟨decide_eq_true ⟨by rw [bs_size]; have := HP.out.1; omega, let_ok HP.out.2.1⟩, (evV_iff _).2 fun d hd => HP.out.2.2.1 d hd⟩)
          go_wp2
          go_ret
          exact ⟨bs l2, rfl, HF.out, b5⟩
end Go.Proofs.Ytopeppnajbnfgaa
