/- SealsLeast: the walk. -/
import Derived.Test.YtopeppnajbnfgaaJF
import Derived.Test.YtopeppnajbnfgaaJG
import Derived.Test.YtopeppnajbnfgaaHJ
namespace Go.Proofs.Ytopeppnajbnfgaa
open Go.RowKit
set_option maxHeartbeats 1000000
set_option maxRecDepth 100000
theorem wL_none {s : ByteArray} {m : Nat} (h : ∀ y ∈ exts s.size m [] 1, fairV s y = false) : wL s m [] 1 = 0 := by
  unfold wL
  rw [List.filter_eq_nil_iff.2 (fun y hy => by rw [h y hy]; exact Bool.false_ne_true)]; rfl
theorem wL_some {s : ByteArray} {m : Nat} {x : List Int} (h : x ∈ exts s.size m [] 1) (hx : fairV s x = true) : 0 < wL s m [] 1 :=
  List.length_pos_of_mem (List.mem_filter.2 ⟨h, hx⟩)
theorem SealsLeast_any (str : ByteArray) (A : Option Addr) (c : Nat) (xs : List Int) (w : World) (hstr : str.size ≤ maxLen) (hx : xs.length ≤ c) (hc : c ≤ maxLen) (ha : IntsAt w A xs) :
    Calls Try.prog 7 #[.string str, .slice A xs.length c] w fun e w' => e = .returned (.bool true) ∧ Below w.heap.size w w' := by
  have HE16 := Lib.hid (even_any16 str w hstr)
  have HAW := Lib.hid awake_any
  have HA := Lib.hid ha
  clear ha
  go_enter Try.func7, Try.ntmps7
  go_wp2_with (go_at_call 37; fail)
  refine HE16.out.mono ?_
  rintro e w1 ⟨s, rfl, ⟨hch, hev⟩, b1⟩
  have hce : (chV s && evV s) = true := by rw [hch, hev]; rfl
  have hs := chV_size hch
  have hok : ∀ i, i < s.size → okC s i := (of_decide_eq_true hch).2
  obtain ⟨x, hfx, hk, hA, hF, hno⟩ := few_some hch hev
  have hxl : x.length ≤ 4 := Nat.le_trans hk (kin_le s)
  have HLE : Hid (∀ w, Calls Try.prog 16 #[.string s] w fun e w' => ∃ A c, e = .returned (.tuple #[.slice A x.length c, .int .i64 0]) ∧ Below w.heap.size w w') := Lib.hid (fun w => (Least_any s w hce).mono fun e w' h => by
    obtain ⟨v, rfl, b, hv⟩ := h
    rcases hv with ⟨y, h1, h2⟩ | ⟨h1, -⟩
    · rw [hfx] at h1; injection h1 with h1; subst h1
      obtain ⟨A, c, rfl, hc, hi, -⟩ := own_sl h2
      exact ⟨A, c, rfl, b⟩
    · rw [hfx] at h1; cases h1)
  have HFA : Hid (∀ w, Calls Try.prog 15 #[.string s] w fun e w' => ∃ A c, e = .returned (.tuple #[.slice A x.length c, .int .i64 0]) ∧ Below w.heap.size w w') := Lib.hid (fun w => (Fair_any s w hce).mono fun e w' h => by
    obtain ⟨v, rfl, b, hv⟩ := h
    rcases hv with ⟨y, h1, h2⟩ | ⟨h1, -⟩
    · rw [hfx] at h1; injection h1 with h1; subst h1
      obtain ⟨A, c, rfl, hc, hi, -⟩ := own_sl h2
      exact ⟨A, c, rfl, b⟩
    · rw [hfx] at h1; cases h1)
  have HW0 : Hid (∀ (n : Nat) w, n < x.length → Calls Try.prog 29 #[.string s, .int .i64 n] w fun e w' => e = .returned (.tuple #[.int .i64 0, .int .i64 0]) ∧ Below w.heap.size w w') := Lib.hid (fun n w hn => by
    have := Ways_any s w hce n (by omega)
    rw [wL_none (hno n hn)] at this
    exact this)
  have HW1 : Hid (∀ (n : Nat) w, n = x.length → Calls Try.prog 29 #[.string s, .int .i64 n] w fun e w' => ∃ K : Nat, 0 < K ∧ e = .returned (.tuple #[.int .i64 K, .int .i64 0]) ∧ Below w.heap.size w w') := Lib.hid (fun n w hn => by
    subst hn
    exact (Ways_any s w hce x.length hxl).mono fun e w' ⟨h1, h2⟩ => ⟨_, wL_some (mem_exts0.2 hA) hF, h1, h2⟩)
  have HMIN : Hid (∀ y : List Int, checkV s y = 0 → x.length ≤ y.length) := Lib.hid (fun y hy => by
    unfold checkV at hy
    rw [hce, Bool.true_and] at hy
    cases hcut : cutV 1 s.size y
    · rw [hcut] at hy; simp at hy
    · rw [hcut, if_pos rfl] at hy
      cases hf : fairV s y
      · rw [hf] at hy; simp at hy
      · apply Nat.le_of_not_lt
        intro hlt
        have := hno y.length hlt y (mem_exts0.2 (asc_cut y 1 hcut))
        rw [hf] at this; cases this)
  have HKI := Lib.hid (fun w => Kinds_any s w (by omega) hok)
  rw [kin_len] at hk
  have hk4 := kinN_le s 4
  generalize kinN s 4 = K at *
  generalize x.length = L at *
  have HCH : Hid (∀ (B : Option Addr) (d : Nat) (ys : List Int) w, ys.length ≤ 30 → ys.length ≤ d → IntsAt w B ys → Calls Try.prog 19 #[.string s, .slice B ys.length d] w fun e w' => e = .returned (.int .i64 (checkV s ys)) ∧ Below w.heap.size w w') := Lib.hid (fun B d ys w h1 h2 h3 => Check_any s B d ys w (by omega) h2 h3)
  clear hA hF hno hfx hok
  go_wp2_with (go_at_call 16; fail)
  refine (HLE.out _).mono ?_
  rintro e w2 ⟨A2, c2, rfl, b2⟩
  replace b1 := b1.trans (b2.mono b1.size)
  clear b2
  go_wp2_with (go_at_call 15; fail)
  refine (HFA.out _).mono ?_
  rintro e w3 ⟨A3, c3, rfl, b3⟩
  replace b1 := b1.trans (b3.mono b1.size)
  clear b3
  have g0 : decide (K < L) = false := decide_eq_false (by omega)
  go_wp2_with (go_at_call 23; with_reducible refine (HKI.out _).mono ?_; rintro e wb ⟨rfl, bb⟩; replace b1 := b1.trans (bb.mono b1.size); clear bb)
  clear g0
  have HB := Lib.hid b1
  clear b1 hk hk4
  go_loopw [10] (fun i wr => ∃ n : Nat, i = .int .i64 n ∧ n ≤ L + 1 ∧ Below w.heap.size w wr) (fun i _ => 10 - (intOf i).toNat)
  case atStart => exact ⟨0, rfl, by omega, HB.out⟩
  case round =>
    obtain ⟨n, rfl, hn, b4⟩ := hrel
    rcases Nat.lt_trichotomy n L with h | h | h
    · have g1 : decide (n ≤ L) = true := decide_eq_true (by omega)
      have g2 : ((n : Int) == (L : Int)) = false := beq_eq_false_iff_ne.2 (by omega)
      go_wp2_with (go_at_call 29; with_reducible refine (HW0.out n _ h).mono ?_; rintro e w5 ⟨rfl, b5⟩; replace b4 := b4.trans (b5.mono b4.size); clear b5)
      go_roundw
      case rel => exact ⟨n + 1, by go_num, by omega, b4⟩
      case measure => simp [intOf]; omega
    · have g1 : decide (n ≤ L) = true := decide_eq_true (by omega)
      have g2 : ((n : Int) == (L : Int)) = true := by simp [h]
      have HH := Lib.hid h
      clear h
      go_wp2_with (go_at_call 29; fail)
      refine (HW1.out n _ HH.out).mono ?_
      rintro e w5 ⟨K2, hK2, rfl, b5⟩
      replace b4 := b4.trans (b5.mono b4.size)
      clear b5
      have g3 : decide (0 < K2) = true := decide_eq_true hK2
      go_wp2
      go_roundw
      case rel => exact ⟨n + 1, by go_num, by have := HH.out; omega, b4⟩
      case measure => simp [intOf]; omega
    · have g1 : decide (n ≤ L) = false := decide_eq_false (by omega)
      go_wp2_with (go_at_call 26; fail)
      refine (list_copy_any A c xs wr hx hc (HA.out.below b4)).mono ?_
      rintro e w2 ⟨v2, n2, rfl, o2, b2⟩
      have hyl : (xs.take 30).length ≤ 30 := by rw [List.length_take]; omega
      generalize xs.take 30 = ys at *
      obtain ⟨A2, c2, rfl, hc2, i2, -⟩ := own_sl o2
      replace b4 := b4.trans (b2.mono b4.size)
      clear o2 b2
      have HM := Lib.hid (HMIN.out ys)
      have HC2 := Lib.hid (fun w h => HCH.out A2 c2 ys w hyl hc2 h)
      cases h0 : (checkV s ys == 0)
      · have HN := Lib.hid (show checkV s ys = 2 ∨ checkV s ys = 10 by
          simp only [beq_eq_false_iff_ne] at h0
          unfold checkV at h0 ⊢
          split
          · split
            · rename_i h1 h2; rw [if_pos h1, if_pos h2] at h0; exact absurd rfl h0
            · exact .inr rfl
          · exact .inl rfl)
        generalize checkV s ys = V at *
        rcases HN.out with rfl | rfl
        · go_wp2_with (first
            | (go_at_call 19; with_reducible refine (HC2.out _ i2).mono ?_; rintro e w6 ⟨rfl, b6⟩; replace b4 := b4.trans (b6.mono b4.size); clear b6)
            | (go_at_call 20; with_reducible refine (HAW.out _).mono ?_; rintro e w7 ⟨rfl, b7⟩; replace b4 := b4.trans (b7.mono b4.size); clear b7))
          go_ret
          exact ⟨rfl, b4⟩
        · go_wp2_with (first
            | (go_at_call 19; with_reducible refine (HC2.out _ i2).mono ?_; rintro e w6 ⟨rfl, b6⟩; replace b4 := b4.trans (b6.mono b4.size); clear b6)
            | (go_at_call 20; with_reducible refine (HAW.out _).mono ?_; rintro e w7 ⟨rfl, b7⟩; replace b4 := b4.trans (b7.mono b4.size); clear b7))
          go_ret
          exact ⟨rfl, b4⟩
      · have h00 : checkV s ys = 0 := by simpa using h0
        have hml := HM.out h00
        rw [h00] at HC2
        clear h0 h00 HM
        have g5 : decide (L ≤ ys.length) = true := decide_eq_true hml
        have g6 : decide ((L : Int) ≤ ys.length) = true := decide_eq_true (by omega)
        go_wp2_with (first
          | (go_at_call 19; with_reducible refine (HC2.out _ i2).mono ?_; rintro e w6 ⟨rfl, b6⟩; replace b4 := b4.trans (b6.mono b4.size); clear b6)
          | (go_at_call 20; with_reducible refine (HAW.out _).mono ?_; rintro e w7 ⟨rfl, b7⟩; replace b4 := b4.trans (b7.mono b4.size); clear b7))
        go_ret
        exact ⟨rfl, b4⟩
end Go.Proofs.Ytopeppnajbnfgaa
