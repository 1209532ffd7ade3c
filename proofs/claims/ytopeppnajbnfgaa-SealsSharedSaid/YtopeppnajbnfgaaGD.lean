/- SealsShared: the walk. -/
import Derived.Test.YtopeppnajbnfgaaGC
namespace Go.Proofs.Ytopeppnajbnfgaa
open Go.RowKit
set_option maxHeartbeats 1000000
set_option maxRecDepth 100000
/-- Ascending positions below at. -/
def Asc (n at_ : Nat) (l : List Int) : Prop := (∀ i, i < l.length → okCut 1 n l i) ∧ (∀ i, i < l.length → geti l i < at_) ∧ l.length ≤ at_
theorem geti_snoc_lt {l : List Int} {x : Int} {i : Nat} (h : i < l.length) : geti (l ++ [x]) i = geti l i := geti_app_left h
theorem Asc.snoc {n at_ : Nat} {l : List Int} (h : Asc n at_ l) (h1 : 1 ≤ at_) (h2 : at_ < n) : Asc n (at_ + 1) (l ++ [(at_ : Int)]) := by
  refine ⟨fun i hi => ?_, fun i hi => ?_, by simp; exact h.2.2⟩
  · rw [List.length_append, List.length_singleton] at hi
    rcases Nat.lt_or_ge i l.length with hl | hl
    · have := h.1 i hl
      unfold okCut fromC at this ⊢
      rw [geti_snoc_lt hl]
      split
      · rename_i h0; rw [if_pos h0] at this; exact this
      · rename_i h0; rw [if_neg h0] at this; rw [geti_snoc_lt (by omega)]; exact this
    · obtain rfl : i = l.length := by omega
      unfold okCut fromC
      rw [geti_app_last]
      split
      · exact ⟨by omega, by omega⟩
      · rw [geti_snoc_lt (by omega)]
        have := h.2.1 (l.length - 1) (by omega)
        exact ⟨by omega, by omega⟩
  · rw [List.length_append, List.length_singleton] at hi
    rcases Nat.lt_or_ge i l.length with hl | hl
    · rw [geti_snoc_lt hl]; have := h.2.1 i hl; omega
    · obtain rfl : i = l.length := by omega
      rw [geti_app_last]; omega
theorem Asc.more {n at_ : Nat} {l : List Int} (h : Asc n at_ l) : Asc n (at_ + 1) l := ⟨h.1, fun i hi => by have := h.2.1 i hi; omega, by have := h.2.2; omega⟩
/-- How long a carrier's share is after so many pieces. -/
def psz (s : ByteArray) (xs : List Int) (hd k : Nat) : Nat := (shr s (xs ++ [(s.size : Int)]) hd k).size
def fr (s : ByteArray) (xs : List Int) (k : Nat) : Nat := frm (xs ++ [(s.size : Int)]) k
theorem shr_step (s : ByteArray) (ts : List Int) (hd k : Nat) : shr s ts hd (k + 1) = if k % 2 = hd then shr s ts hd k ++ s.extract (frm ts k) (frm ts (k + 1)) else shr s ts hd k := rfl
theorem shr_mono (s : ByteArray) (ts : List Int) (hd q : Nat) : ∀ r, (shr s ts hd q).size ≤ (shr s ts hd (q + r)).size ∧ ∀ i, i < (shr s ts hd q).size → sb (shr s ts hd (q + r)) i = sb (shr s ts hd q) i
  | 0 => ⟨Nat.le_refl _, fun _ _ => rfl⟩
  | r + 1 => by
    obtain ⟨h1, h2⟩ := shr_mono s ts hd q r
    rw [show q + (r + 1) = (q + r) + 1 from rfl, shr_step]
    split
    · exact ⟨by rw [ByteArray.size_append]; omega, fun i hi => by rw [sb_app_left (by omega)]; exact h2 i hi⟩
    · exact ⟨h1, h2⟩
theorem psz_step {s : ByteArray} {xs : List Int} (h : cutV 1 s.size xs = true) (hd : Nat) {k : Nat} (hk : k ≤ xs.length) : psz s xs hd (k + 1) = psz s xs hd k + if k % 2 = hd then fr s xs (k + 1) - fr s xs k else 0 := by
  obtain ⟨h1, h2⟩ := frm_ok h k (by omega)
  unfold psz fr
  rw [shr_step]
  split
  · rw [ByteArray.size_append, ByteArray.size_extract]; omega
  · omega
theorem psz_sum {s : ByteArray} {xs : List Int} (h : cutV 1 s.size xs = true) : ∀ k, k ≤ xs.length + 1 → psz s xs 0 k + psz s xs 1 k = fr s xs k
  | 0, _ => rfl
  | k + 1, hk => by
    have ih := psz_sum h k (by omega)
    have h3 := (frm_ok h k (by omega)).1
    rw [psz_step h 0 (by omega), psz_step h 1 (by omega)]
    unfold fr at *
    rcases Nat.mod_two_eq_zero_or_one k with h2 | h2
    · rw [if_pos h2, if_neg (by omega)]; omega
    · rw [if_neg (by omega), if_pos h2]; omega
theorem share_sum {s : ByteArray} {xs : List Int} (h : cutV 1 s.size xs = true) : (shareV s xs 0).size + (shareV s xs 1).size = s.size := by
  have := psz_sum h (xs.length + 1) (Nat.le_refl _)
  unfold fr at this
  rw [frm_end] at this
  exact this
theorem read_ok {s : ByteArray} {xs : List Int} (h : cutV 1 s.size xs = true) {hd q j : Nat} (hq : q ≤ xs.length) (hp : q % 2 = hd) (hj : fr s xs q + j < fr s xs (q + 1)) :
    psz s xs hd q + j < (shareV s xs hd).size ∧ sb (shareV s xs hd) (psz s xs hd q + j) = sb s (fr s xs q + j) := by
  obtain ⟨h1, h2⟩ := frm_ok h q (by omega)
  have hs := psz_step h hd hq
  rw [if_pos hp] at hs
  obtain ⟨m1, m2⟩ := shr_mono s (xs ++ [(s.size : Int)]) hd (q + 1) (xs.length - q)
  rw [show q + 1 + (xs.length - q) = xs.length + 1 by omega] at m1 m2
  have hlt : psz s xs hd q + j < psz s xs hd (q + 1) := by unfold fr at hj hs; omega
  refine ⟨Nat.lt_of_lt_of_le hlt m1, ?_⟩
  unfold shareV
  rw [m2 _ hlt, shr_step, if_pos hp]
  show sb (_ ++ _) ((shr s (xs ++ [(s.size : Int)]) hd q).size + j) = _
  unfold fr at hj
  rw [sb_app_right, sb_ext hj h2]
  rfl
theorem fr_cut {s : ByteArray} {xs : List Int} {q : Nat} (hq : q < xs.length) : fr s xs (q + 1) = (geti xs q).toNat := by
  unfold fr frm; rw [if_neg (by omega), Nat.add_sub_cancel, geti_app_left hq]
theorem fr_last (s : ByteArray) (xs : List Int) : fr s xs (xs.length + 1) = s.size := frm_end s xs
/-- Where one stands when the chain is read once more. -/
structure Rd (t : ByteArray) (l : List Int) (at_ q i k : Nat) : Prop where
  hq : q ≤ l.length
  hlo : fr t l q ≤ at_
  hi : i = psz t l 0 q + if q % 2 = 0 then at_ - fr t l q else 0
  hk : k = psz t l 1 q + if q % 2 = 1 then at_ - fr t l q else 0
theorem Rd.cut {t : ByteArray} {l : List Int} {at_ q i k : Nat} (h : cutV 1 t.size l = true) (r : Rd t l at_ q i k) (hq : q < l.length) (he : geti l q = at_) : Rd t l at_ (q + 1) i k := by
  have hf : fr t l (q + 1) = at_ := by rw [fr_cut hq, he]; rfl
  have h0 := psz_step h 0 (k := q) (by omega)
  have h1 := psz_step h 1 (k := q) (by omega)
  rw [hf] at h0 h1
  refine ⟨by omega, by omega, ?_, ?_⟩
  · have := r.hi
    rw [hf, h0]
    rcases Nat.mod_two_eq_zero_or_one q with h2 | h2
    · rw [if_pos h2] at this ⊢; rw [if_neg (by omega)]; omega
    · rw [if_neg (by omega)] at this; rw [if_neg (show ¬ q % 2 = 0 by omega), if_pos (by omega)]; omega
  · have := r.hk
    rw [hf, h1]
    rcases Nat.mod_two_eq_zero_or_one q with h2 | h2
    · rw [if_neg (by omega)] at this; rw [if_neg (show ¬ q % 2 = 1 by omega), if_pos (by omega)]; omega
    · rw [if_pos h2] at this ⊢; rw [if_neg (by omega)]; omega
theorem Rd.even {t : ByteArray} {l : List Int} {at_ q i k : Nat} (h : cutV 1 t.size l = true) (r : Rd t l at_ q i k) (h2 : q % 2 = 0) (hhi : at_ < fr t l (q + 1)) : i < (shareV t l 0).size ∧ sb (shareV t l 0) i = sb t at_ ∧ Rd t l (at_ + 1) q (i + 1) k := by
  have h3 := r.hi
  have h4 := r.hk
  have h5 := r.hlo
  rw [if_pos h2] at h3
  rw [if_neg (by omega)] at h4
  obtain ⟨a, b⟩ := read_ok h (hd := 0) (j := at_ - fr t l q) r.hq h2 (by omega)
  rw [show fr t l q + (at_ - fr t l q) = at_ by omega] at b
  rw [← h3] at a b
  exact ⟨a, b, r.hq, by omega, by rw [if_pos h2]; omega, by rw [if_neg (by omega)]; omega⟩
theorem Rd.odd {t : ByteArray} {l : List Int} {at_ q i k : Nat} (h : cutV 1 t.size l = true) (r : Rd t l at_ q i k) (h2 : q % 2 = 1) (hhi : at_ < fr t l (q + 1)) : k < (shareV t l 1).size ∧ sb (shareV t l 1) k = sb t at_ ∧ Rd t l (at_ + 1) q i (k + 1) := by
  have h3 := r.hi
  have h4 := r.hk
  have h5 := r.hlo
  rw [if_neg (by omega)] at h3
  rw [if_pos h2] at h4
  obtain ⟨a, b⟩ := read_ok h (hd := 1) (j := at_ - fr t l q) r.hq h2 (by omega)
  rw [show fr t l q + (at_ - fr t l q) = at_ by omega] at b
  rw [← h4] at a b
  exact ⟨a, b, r.hq, by omega, by rw [if_neg (by omega)]; omega, by rw [if_pos h2]; omega⟩
theorem SealsShared_any (str : ByteArray) (A : Option Addr) (c : Nat) (xs : List Int) (w : World) (hstr : str.size ≤ maxLen) (hx : xs.length ≤ c) (hc : c ≤ maxLen) (ha : IntsAt w A xs) :
    Calls Try.prog 9 #[.string str, .slice A xs.length c] w fun e w' => e = .returned (.bool true) ∧ Below w.heap.size w w' := by
  obtain ⟨j0, ji, jz0, jz1, jz2⟩ := info_parts info3
  have HEV := Lib.hid (even_any str w hstr)
  have HAW := Lib.hid awake_any
  unfold maxLen at hc
  go_enter Try.func9, Try.ntmps9
  go_wp2_with (go_at_call 37; fail)
  refine HEV.out.mono ?_
  rintro e w1 ⟨t, rfl, ⟨hch, hev⟩, b1⟩
  have hts := chV_size hch
  go_wp2
  go_loopw [6, 7] (fun v a wr => ∃ (at_ : Nat) (l : List Int), a = .int .i64 at_ ∧ 1 ≤ at_ ∧ (at_ ≤ t.size ∨ at_ = 1) ∧ Hid (Asc t.size at_ l) ∧ wr.ownsRow w.heap.size 3 1 v l.length (iv l) ∧ Below w.heap.size w wr) (fun _ a _ => 100 - (intOf a).toNat)
  case atStart => exact ⟨1, [], rfl, by omega, .inr rfl, Lib.hid ⟨fun i hi => absurd hi (by simp), fun i hi => absurd hi (by simp), by simp⟩, ⟨rfl, .inl ⟨rfl, rfl⟩⟩, b1⟩
  case round =>
    clear b1
    obtain ⟨at_, l, rfl, ha1, hat, HASC, o1, b1⟩ := hrel
    by_cases hlt : at_ < t.size
    · go_wp2
      go_loopw [8, 9] (fun q i wr2 => ∃ (k : Nat) (b : Bool), i = .int .i64 k ∧ k ≤ xs.length ∧ k ≤ 30 ∧ q = .bool b ∧ wr = wr2) (fun _ i _ => 30 - (intOf i).toNat)
      case atStart => exact ⟨0, false, rfl, by omega, by omega, rfl, rfl⟩
      case round =>
        obtain ⟨k, b, rfl, hk, hk30, rfl, rfl⟩ := hrel
        by_cases h1 : k < xs.length
        · by_cases h2 : k < 30
          · have g1 : decide ((k : Int) < xs.length) = true := decide_eq_true (by omega)
            have g2 : decide ((k : Int) < 30) = true := decide_eq_true (by omega)
            obtain ⟨bb, o, rfl, hbb, hcs⟩ := (ha.below b1) (by omega)
            have c0 := hcs k h1
            have HM := Lib.hid (fun w => mod_any (geti xs k) t.size w (by omega) (by omega))
            clear hcs
            generalize geti xs k = x at *
            cases b
            · go_wp2_with (go_at_call 40; with_reducible refine (HM.out _).mono ?_; rintro e w3 ⟨rfl, rfl⟩)
              go_roundw
              case rel => exact ⟨k + 1, _, by go_num, by omega, by omega, rfl, trivial⟩
              case measure => simp [intOf]; omega
            · go_wp2
              go_roundw
              case rel => exact ⟨k + 1, _, by go_num, by omega, by omega, rfl, trivial⟩
              case measure => simp [intOf]; omega
          · have g1 : decide ((k : Int) < xs.length) = true := decide_eq_true (by omega)
            have g2 : decide ((k : Int) < 30) = false := decide_eq_false (by omega)
            cases b
            · go_wp2
              go_roundw
              case rel => exact ⟨at_ + 1, l, by go_num, by omega, .inl (by omega), Lib.hid HASC.out.more, o1, b1⟩
              case measure => simp [intOf]; omega
            · have hnr : Row (wr.alloc (.cells #[.int .i64 (at_ : Int)] 3)) wr.heap.size 3 [.int .i64 (at_ : Int)] := row_new rfl
              have hll := HASC.out.2.2
              have hb1 := b1.size
              go_wp2_with (at_builtin; refine wpList_append_own_at _ rfl (.tmp 49) (.tmp 51) 23 rfl w.heap.size 3 j0 (.int .i64 0) 1 8 Try.underlying23 ji jz0 jz1 jz2 rfl (by decide) _ _ _ rfl (o1.alloc _) ⟨wr.heap.size, 0, none⟩ 1 1 [.int .i64 (at_ : Int)] rfl rfl (news_one hnr) (by simp [Value.oneCell']) (by unfold maxLen; omega) (by omega) (by simp; omega) ?_; intro v2 w2 o2 hg2 _ _)
              have b2 := app1' o1 hb1 hg2
              go_roundw
              case rel =>
                refine ⟨at_ + 1, l ++ [(at_ : Int)], by go_num, by omega, .inl (by omega), Lib.hid (HASC.out.snoc ha1 hlt), ?_, b1.trans b2⟩
                rw [iv_snoc, List.length_append]; exact o2
              case measure => simp [intOf]; omega
        · have g1 : decide ((k : Int) < xs.length) = false := decide_eq_false (by omega)
          cases b
          · go_wp2
            go_roundw
            case rel => exact ⟨at_ + 1, l, by go_num, by omega, .inl (by omega), Lib.hid HASC.out.more, o1, b1⟩
            case measure => simp [intOf]; omega
          · have hnr : Row (wr.alloc (.cells #[.int .i64 (at_ : Int)] 3)) wr.heap.size 3 [.int .i64 (at_ : Int)] := row_new rfl
            have hll := HASC.out.2.2
            have hb1 := b1.size
            go_wp2_with (at_builtin; refine wpList_append_own_at _ rfl (.tmp 49) (.tmp 51) 23 rfl w.heap.size 3 j0 (.int .i64 0) 1 8 Try.underlying23 ji jz0 jz1 jz2 rfl (by decide) _ _ _ rfl (o1.alloc _) ⟨wr.heap.size, 0, none⟩ 1 1 [.int .i64 (at_ : Int)] rfl rfl (news_one hnr) (by simp [Value.oneCell']) (by unfold maxLen; omega) (by omega) (by simp; omega) ?_; intro v2 w2 o2 hg2 _ _)
            have b2 := app1' o1 hb1 hg2
            go_roundw
            case rel =>
              refine ⟨at_ + 1, l ++ [(at_ : Int)], by go_num, by omega, .inl (by omega), Lib.hid (HASC.out.snoc ha1 hlt), ?_, b1.trans b2⟩
              rw [iv_snoc, List.length_append]; exact o2
            case measure => simp [intOf]; omega
    · obtain ⟨B, d, rfl, hld, i1, sl1⟩ := own_sl o1
      have hasc := HASC.out.1
      have hcut : cutV 1 t.size l = true := decide_eq_true hasc
      have hln := cutV_len (by omega) hcut
      have HSH := Lib.hid (fun w (h : IntsAt w B l) => Shares_any t B d l w (by omega) hld sl1 h)
      have HS2 := Lib.hid (share_sum hcut)
      have z0 : (shareV t l 0).size ≤ 24 := by have := HS2.out; omega
      have z1 : (shareV t l 1).size ≤ 24 := by have := HS2.out; omega
      have gs : (((shareV t l 0).size : Int) + (shareV t l 1).size != t.size) = false := by have := HS2.out; rw [bne_eq_false_iff_eq]; omega
      have HSV := Lib.hid (show sharesV t l = .tuple #[.string (shareV t l 0), .string (shareV t l 1), .int .i64 0] by unfold sharesV; rw [hch, hcut]; rfl)
      clear o1 hasc
      go_wp2_with (go_at_call 27; fail)
      refine (HSH.out _ i1).mono ?_
      rintro e w4 ⟨rfl, b4⟩
      rw [HSV.out]
      replace i1 := i1.below b4
      replace b1 := b1.trans (b4.mono b1.size)
      clear b4
      have HO0 := Lib.hid (okC_share (of_decide_eq_true hch).2 hcut 0)
      have HO1 := Lib.hid (okC_share (of_decide_eq_true hch).2 hcut 1)
      have HCK := Lib.hid (fun w (h : IntsAt w B l) => Check_any t B d l w (by omega) hld h)
      have HFR := Lib.hid (fair_ref hts hev hcut)
      generalize hA0 : shareV t l 0 = a0 at *
      generalize hA1 : shareV t l 1 = a1 at *
      go_wp2
      go_loopw [13, 14, 15, 16, 17] (fun vi vk vc vn va wr => ∃ (p q i k n : Nat) (car : Int), vi = .int .i64 i ∧ vk = .int .i64 k ∧ vc = .int .i64 car ∧ (car = 0 ∧ q % 2 = 0 ∨ car = 1 ∧ q % 2 = 1) ∧ vn = .int .i64 q ∧ va = .int .i64 p ∧ p ≤ t.size ∧ Hid (Rd t l p q i k) ∧ (q < l.length → p ≤ geti l q) ∧ wr = w4.drewN n) (fun _ _ _ _ p _ => 100 - (intOf p).toNat)
      case atStart =>
        refine ⟨0, 0, 0, 0, 0, 0, rfl, rfl, rfl, .inl ⟨rfl, rfl⟩, rfl, rfl, Nat.zero_le _, Lib.hid ⟨Nat.zero_le _, Nat.zero_le _, rfl, rfl⟩, fun h0 => ?_, rfl⟩
        have := (HASC.out.1 0 h0).1
        unfold fromC at this; rw [if_pos rfl] at this; omega
      case round =>
        obtain ⟨p, q, i, k, n, car, rfl, rfl, rfl, hcar, rfl, rfl, hp, HRD, hnx, rfl⟩ := hrel
        by_cases hlt : p < t.size
        · have g0 : decide ((p : Int) < t.size) = true := decide_eq_true (by omega)
          by_cases hq : q < l.length
          · have g1 : decide ((q : Int) < l.length) = true := decide_eq_true (by omega)
            obtain ⟨bb, o, rfl, hbb, hcs⟩ := (i1.drewN n) (by omega)
            have c0 := hcs q hq
            have hge := hnx hq
            clear hcs
            by_cases he : geti l q = p
            · have g2 : (geti l q == (p : Int)) = true := by rw [he, beq_self_eq_true]
              have hR := HRD.out.cut hcut hq he
              have hx1 : q + 1 < l.length → (p : Int) < geti l (q + 1) := fun h => by
                have := (HASC.out.1 (q + 1) h).1
                unfold fromC at this
                rw [if_neg (by omega), Nat.add_sub_cancel] at this
                omega
              have hhi : p < fr t l (q + 1 + 1) := by
                rcases Nat.lt_or_ge (q + 1) l.length with h | h
                · rw [fr_cut h]; have := hx1 h; omega
                · obtain h : q + 1 = l.length := by omega
                  rw [h, fr_last]; exact hlt
              have HNX := Lib.hid (show q + 1 < l.length → ((p + 1 : Nat) : Int) ≤ geti l (q + 1) from fun h => by have := hx1 h; omega)
              clear hx1 hnx
              rw [he] at c0 g2
              rcases hcar with ⟨rfl, h2⟩ | ⟨rfl, h2⟩
              · obtain ⟨ea, eb, hR2⟩ := hR.odd hcut (by omega) hhi
                rw [hA1] at ea eb
                rw [sb_eq ea, sb_eq hlt] at eb
                have gl : decide ((a1.size : Int) ≤ k) = false := decide_eq_false (by omega)
                have gn : ((a1[k].toNat : Int) != t[p].toNat) = false := by rw [eb, bne_self_eq_false]
                have HR2 := Lib.hid hR2
                clear hR2 eb hR hhi
                go_wp2
                go_quiet (fail)
                go_wp2
                go_roundw
                case rel => exact ⟨p + 1, q + 1, i, k + 1, _, 1, by go_num, by go_num, by first | rfl | go_num, .inr ⟨rfl, by omega⟩, by go_num, by go_num, by omega, HR2, HNX.out, by first | rfl | exact World.drewN_drewN _ _ _⟩
                case measure => simp [intOf]; omega
              · obtain ⟨ea, eb, hR2⟩ := hR.even hcut (by omega) hhi
                rw [hA0] at ea eb
                rw [sb_eq ea, sb_eq hlt] at eb
                have gl : decide ((a0.size : Int) ≤ i) = false := decide_eq_false (by omega)
                have gn : ((a0[i].toNat : Int) != t[p].toNat) = false := by rw [eb, bne_self_eq_false]
                have HR2 := Lib.hid hR2
                clear hR2 eb hR hhi
                go_wp2
                go_quiet (fail)
                go_wp2
                go_roundw
                case rel => exact ⟨p + 1, q + 1, i + 1, k, _, 0, by go_num, by go_num, by first | rfl | go_num, .inl ⟨rfl, by omega⟩, by go_num, by go_num, by omega, HR2, HNX.out, by first | rfl | exact World.drewN_drewN _ _ _⟩
                case measure => simp [intOf]; omega
            · have g2 : (geti l q == (p : Int)) = false := beq_eq_false_iff_ne.2 he
              have hR := HRD.out
              have hhi : p < fr t l (q + 1) := by rw [fr_cut hq]; omega
              have HNX := Lib.hid (show q < l.length → ((p + 1 : Nat) : Int) ≤ geti l q from fun h => by omega)
              clear hnx
              rcases hcar with ⟨rfl, h2⟩ | ⟨rfl, h2⟩
              · obtain ⟨ea, eb, hR2⟩ := hR.even hcut (by omega) hhi
                rw [hA0] at ea eb
                rw [sb_eq ea, sb_eq hlt] at eb
                have gl : decide ((a0.size : Int) ≤ i) = false := decide_eq_false (by omega)
                have gn : ((a0[i].toNat : Int) != t[p].toNat) = false := by rw [eb, bne_self_eq_false]
                have HR2 := Lib.hid hR2
                clear hR2 eb hR hhi
                go_wp2
                go_quiet (fail)
                go_wp2
                go_roundw
                case rel => exact ⟨p + 1, q, i + 1, k, _, 0, by go_num, by go_num, by first | rfl | go_num, .inl ⟨rfl, by omega⟩, by go_num, by go_num, by omega, HR2, HNX.out, by first | rfl | exact World.drewN_drewN _ _ _⟩
                case measure => simp [intOf]; omega
              · obtain ⟨ea, eb, hR2⟩ := hR.odd hcut (by omega) hhi
                rw [hA1] at ea eb
                rw [sb_eq ea, sb_eq hlt] at eb
                have gl : decide ((a1.size : Int) ≤ k) = false := decide_eq_false (by omega)
                have gn : ((a1[k].toNat : Int) != t[p].toNat) = false := by rw [eb, bne_self_eq_false]
                have HR2 := Lib.hid hR2
                clear hR2 eb hR hhi
                go_wp2
                go_quiet (fail)
                go_wp2
                go_roundw
                case rel => exact ⟨p + 1, q, i, k + 1, _, 1, by go_num, by go_num, by first | rfl | go_num, .inr ⟨rfl, by omega⟩, by go_num, by go_num, by omega, HR2, HNX.out, by first | rfl | exact World.drewN_drewN _ _ _⟩
                case measure => simp [intOf]; omega
          · have g1 : decide ((q : Int) < l.length) = false := decide_eq_false (by omega)
            have hR := HRD.out
            have hhi : p < fr t l (q + 1) := by
              obtain h : q = l.length := by have := hR.hq; omega
              rw [h, fr_last]; exact hlt
            have HNX := Lib.hid (show q < l.length → ((p + 1 : Nat) : Int) ≤ geti l q from fun h => absurd h hq)
            clear hnx
            rcases hcar with ⟨rfl, h2⟩ | ⟨rfl, h2⟩
            · obtain ⟨ea, eb, hR2⟩ := hR.even hcut (by omega) hhi
              rw [hA0] at ea eb
              rw [sb_eq ea, sb_eq hlt] at eb
              have gl : decide ((a0.size : Int) ≤ i) = false := decide_eq_false (by omega)
              have gn : ((a0[i].toNat : Int) != t[p].toNat) = false := by rw [eb, bne_self_eq_false]
              have HR2 := Lib.hid hR2
              clear hR2 eb hR hhi
              go_wp2
              go_quiet (fail)
              go_wp2
              go_roundw
              case rel => exact ⟨p + 1, q, i + 1, k, _, 0, by go_num, by go_num, by first | rfl | go_num, .inl ⟨rfl, by omega⟩, by go_num, by go_num, by omega, HR2, HNX.out, by first | rfl | exact World.drewN_drewN _ _ _⟩
              case measure => simp [intOf]; omega
            · obtain ⟨ea, eb, hR2⟩ := hR.odd hcut (by omega) hhi
              rw [hA1] at ea eb
              rw [sb_eq ea, sb_eq hlt] at eb
              have gl : decide ((a1.size : Int) ≤ k) = false := decide_eq_false (by omega)
              have gn : ((a1[k].toNat : Int) != t[p].toNat) = false := by rw [eb, bne_self_eq_false]
              have HR2 := Lib.hid hR2
              clear hR2 eb hR hhi
              go_wp2
              go_quiet (fail)
              go_wp2
              go_roundw
              case rel => exact ⟨p + 1, q, i, k + 1, _, 1, by go_num, by go_num, by first | rfl | go_num, .inr ⟨rfl, by omega⟩, by go_num, by go_num, by omega, HR2, HNX.out, by first | rfl | exact World.drewN_drewN _ _ _⟩
              case measure => simp [intOf]; omega
        · have g0 : decide ((p : Int) < t.size) = false := decide_eq_false (by omega)
          clear hnx HRD hcar
          replace i1 := i1.drewN n
          replace b1 := b1.trans (below_drewN n)
          generalize w4.drewN n = w4' at *
          have L0 := Lib.hid (fun w => Letters_any a0 w (by omega) (HO0.out))
          have L1 := Lib.hid (fun w => Letters_any a1 w (by omega) (HO1.out))
          have E46 := eq46 (x := sumL a0 a0.size) (y := sumL a1 a1.size) rfl rfl
          have HRF := HFR.out
          unfold refFair at HRF
          rw [hA0, hA1] at HRF
          cases hfa : decide (sumL a0 a0.size = sumL a1 a1.size)
          · have HV := Lib.hid (show checkV t l = 10 by unfold checkV; rw [hch, hev, hcut, HRF, hfa]; rfl)
            go_wp2_with (first
              | (go_at_call 19; with_reducible refine (HCK.out _ i1).mono ?_; rintro e w5 ⟨rfl, b5⟩; rw [HV.out]; replace b1 := b1.trans (b5.mono b1.size))
              | (go_at_call 41; with_reducible refine (L0.out _).mono ?_; rintro e w2 ⟨rfl, b2⟩; replace b1 := b1.trans (b2.mono b1.size))
              | (go_at_call 41; with_reducible refine (L1.out _).mono ?_; rintro e w3 ⟨rfl, b3⟩; replace b1 := b1.trans (b3.mono b1.size))
              | (go_at_call 20; with_reducible refine (HAW.out _).mono ?_; rintro e w6 ⟨rfl, b6⟩; replace b1 := b1.trans (b6.mono b1.size)))
            go_ret
            exact ⟨rfl, b1⟩
          · have HV := Lib.hid (show checkV t l = 0 by unfold checkV; rw [hch, hev, hcut, HRF, hfa]; rfl)
            go_wp2_with (first
              | (go_at_call 19; with_reducible refine (HCK.out _ i1).mono ?_; rintro e w5 ⟨rfl, b5⟩; rw [HV.out]; replace b1 := b1.trans (b5.mono b1.size))
              | (go_at_call 41; with_reducible refine (L0.out _).mono ?_; rintro e w2 ⟨rfl, b2⟩; replace b1 := b1.trans (b2.mono b1.size))
              | (go_at_call 41; with_reducible refine (L1.out _).mono ?_; rintro e w3 ⟨rfl, b3⟩; replace b1 := b1.trans (b3.mono b1.size))
              | (go_at_call 20; with_reducible refine (HAW.out _).mono ?_; rintro e w6 ⟨rfl, b6⟩; replace b1 := b1.trans (b6.mono b1.size)))
            go_ret
            exact ⟨rfl, b1⟩
end Go.Proofs.Ytopeppnajbnfgaa
