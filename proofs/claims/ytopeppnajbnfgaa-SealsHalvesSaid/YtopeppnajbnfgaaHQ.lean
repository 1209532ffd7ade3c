/- SealsHalves: the walk. -/
import Derived.Test.YtopeppnajbnfgaaHP
namespace Go.Proofs.Ytopeppnajbnfgaa
open Go.RowKit
set_option maxHeartbeats 1000000
set_option maxRecDepth 100000
theorem SealsHalves_any (str : ByteArray) (w : World) (hstr : str.size ≤ maxLen) :
    Calls Try.prog 12 #[.string str] w fun e w' => e = .returned (.bool true) ∧ Below w.heap.size w w' := by
  have HEV := Lib.hid (even_any str w hstr)
  have HAW := Lib.hid awake_any
  go_enter Try.func12, Try.ntmps12
  go_wp2_with (go_at_call 37; fail)
  refine HEV.out.mono ?_
  rintro e w1 ⟨t, rfl, ⟨hch, hev⟩, b1⟩
  have hts := chV_size hch
  have hce : (chV t && evV t) = true := by rw [hch, hev]; rfl
  have ho := (of_decide_eq_true hch : t.size ≤ 24 ∧ ∀ i, i < t.size → okC t i).2
  have HW1 : Hid (∀ w, Calls Try.prog 29 #[.string t, .int .i64 1] w fun e w' => e = .returned (.tuple #[.int .i64 (wL t 1 [] 1), .int .i64 0]) ∧ Below w.heap.size w w') := Lib.hid (fun w => Ways_any t w hce 1 (by omega))
  have HW2 : Hid (∀ w, Calls Try.prog 29 #[.string t, .int .i64 2] w fun e w' => e = .returned (.tuple #[.int .i64 (wL t 2 [] 1), .int .i64 0]) ∧ Below w.heap.size w w') := Lib.hid (fun w => Ways_any t w hce 2 (by omega))
  have HH := Lib.hid (fun w => Halves_any t w hch)
  have hlen := hlvL_len t (t.size + 1)
  have gne : ((((t.size + 1 : Nat) : Int)) != (t.size : Int) + 1) = false := by rw [bne_eq_false_iff_eq]; omega
  have gne2 : (((t.size : Int) + 1) != (t.size : Int) + 1) = false := by rw [bne_eq_false_iff_eq]
  have HAT := Lib.hid (fun k (hk : k ≤ t.size) => hlvL_at (s := t) hts ho hk (t.size + 1) (Nat.le_refl _))
  go_wp2_with (go_at_call 30; fail)
  refine (HH.out _).mono ?_
  rintro e w2 ⟨g, rfl, -, hr, b2⟩
  replace b1 := b1.trans (b2.mono b1.size)
  clear b2
  generalize hlvL t (t.size + 1) = L at *
  by_cases h0 : t.size = 0
  · have hz : ((t.size : Int) == 0) = true := by rw [beq_iff_eq]; omega
    have c0 := ivR hr (i := 0) (by omega)
    have hL0 : geti L 0 = 1 := by
      rw [HAT.out 0 (by omega), show t.size + 1 - 0 = 0 + 1 by omega]
      have : pr t 0 0 = true := pr_cnt.2 fun c hc => by
        rw [h0]; show (0 : Int) - 0 / 2 = 0; rfl
      simp [cntA, this]
    rw [hL0] at c0
    have HT0 := Lib.hid h0
    clear h0
    go_wp2_with (go_at_call 20; with_reducible refine (HAW.out _).mono ?_; rintro e w6 ⟨rfl, b6⟩; replace b1 := b1.trans (b6.mono b1.size))
    go_ret
    exact ⟨rfl, b1⟩
  · have hz : ((t.size : Int) == 0) = false := by rw [beq_eq_false_iff_ne]; omega
    have hh := (half_sum ho hev).1
    have hcount := halves_count ho hev (by omega)
    obtain ⟨h, hhd⟩ : ∃ h, h = t.size / 2 := ⟨_, rfl⟩
    have HL : Hid (∀ k, k ≤ t.size → geti L k = if k = h then ((cntA t h (h + 1) : Nat) : Int) else 0) := Lib.hid (fun k hk => by
      rw [HAT.out k hk]
      by_cases e : k = h
      · rw [if_pos e, e, show t.size + 1 - h = h + 1 by omega]
      · rw [if_neg e, cntA_zero ho hev (by omega) _ (by omega)]; rfl)
    rw [← hhd] at hcount
    have hx := cntA_le t h (h + 1)
    have w1b := wL_le hts (m := 1) (by omega) [] 1
    have w2b := wL_le hts (m := 2) (by omega) [] 1
    generalize wL t 1 [] 1 = one at *
    generalize wL t 2 [] 1 = two at *
    generalize cntA t h (h + 1) = X at *
    have HC := Lib.hid hcount
    have hh24 : h ≤ 12 := by omega
    have hht : h ≤ t.size := by omega
    have HHH := Lib.hid hh
    have HHD := Lib.hid hhd
    clear hcount hh
    go_wp2_with (go_at_call 29; fail)
    refine (HW1.out _).mono ?_
    rintro e w3 ⟨rfl, b3⟩
    replace hr := hr.below b3
    replace b1 := b1.trans (b3.mono b1.size)
    clear b3
    go_wp2_with (go_at_call 29; fail)
    refine (HW2.out _).mono ?_
    rintro e w4 ⟨rfl, b4⟩
    replace hr := hr.below b4
    replace b1 := b1.trans (b4.mono b1.size)
    clear b4
    go_wp2
    go_loopw [10, 11] (fun sv i wr => ∃ (k : Nat) (S : Int), i = .int .i64 k ∧ k ≤ t.size + 1 ∧ sv = .int .i64 S ∧ 0 ≤ S ∧ S ≤ 100 ∧ Hid (S = if h < k then (X : Int) else 0) ∧ Row wr g 3 (iv L) ∧ Below w.heap.size w wr) (fun _ i _ => 100 - (intOf i).toNat)
    case atStart => exact ⟨0, 0, rfl, by omega, rfl, by omega, by omega, Lib.hid (by rw [if_neg (by omega)]), hr, b1⟩
    case round =>
      clear hr b1
      obtain ⟨k, S, rfl, hk, rfl, hS0, hS1, HS, hr, b1⟩ := hrel
      by_cases hkt : k < t.size + 1
      · have g1 : decide ((k : Int) < ((t.size + 1 : Nat) : Int)) = true := decide_eq_true (by omega)
        have g2 : decide ((k : Int) < (t.size : Int) + 1) = true := decide_eq_true (by omega)
        have ck := ivR hr (i := k) (by omega)
        obtain ⟨y, hy⟩ : ∃ y, y = geti L k := ⟨_, rfl⟩
        rw [← hy] at ck
        rw [HL.out k (by omega)] at hy
        have hyS : S + y = (if h < k + 1 then (X : Int) else 0) ∧ 0 ≤ y ∧ y ≤ 100 ∧ S + y ≤ 100 := by
          have hs := HS.out
          rcases Nat.lt_trichotomy k h with e | e | e
          · rw [if_neg (by omega)] at hy hs ⊢; omega
          · rw [if_pos e] at hy; rw [if_neg (by omega)] at hs; rw [if_pos (by omega)]; omega
          · rw [if_neg (by omega)] at hy; rw [if_pos e] at hs; rw [if_pos (by omega)]; omega
        obtain ⟨hyS, hy0, hy1, hy2⟩ := hyS
        have HYS := Lib.hid hyS
        clear hyS hy
        go_wp2
        go_roundw
        case rel => exact ⟨k + 1, S + y, by go_num, by omega, by go_num, by omega, hy2, HYS, hr, b1⟩
        case measure => simp [intOf]; omega
      · obtain rfl : k = t.size + 1 := by omega
        have hSX : S = X := by rw [HS.out, if_pos (by omega)]
        subst hSX
        have g1 : decide ((((t.size + 1 : Nat)) : Int) < ((t.size + 1 : Nat) : Int)) = false := decide_eq_false (by omega)
        have hq : ((t.size : Int).tdiv 2) = (h : Int) := by rw [Int.tdiv_eq_ediv_of_nonneg (by omega), HHD.out]; rfl
        have ch := ivR hr (i := h) (by omega)
        rw [HL.out h hht, if_pos rfl] at ch
        have ch2 : wr.cell? ⟨g, t.size / 2, none⟩ = some (.int .i64 (X : Int)) := by rw [← HHD.out]; exact ch
        clear hq
        have gX : ((X : Int) == (two : Int) + 2 * (one : Int)) = true := by rw [beq_iff_eq]; have := HC.out; omega
        go_wp2_with (go_at_call 20; with_reducible refine (HAW.out _).mono ?_; rintro e w6 ⟨rfl, b6⟩; replace b1 := b1.trans (b6.mono b1.size))
        go_ret
        exact ⟨rfl, b1⟩
end Go.Proofs.Ytopeppnajbnfgaa
