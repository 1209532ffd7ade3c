/- Sets are made. -/
import Derived.Test.YtokjdadgdfmffaaLF
namespace Go.Proofs.Ytokjdadgdfmffaa
open Go.RowKit
set_option maxHeartbeats 1000000
set_option maxRecDepth 100000
theorem own_cap {w : World} {b n : Nat} {v : Value} {xs : List Int} (h : w.ownsRow b 3 1 v n (iv xs)) : ∃ A c, v = .slice A xs.length c ∧ xs.length ≤ c ∧ c ≤ maxLen ∧ IntsAt w A xs := by
  obtain ⟨A, c, e, hn, hc, hi⟩ := own_intsI h
  refine ⟨A, c, e, hc, ?_, hi⟩
  rcases h.2 with ⟨h1, _⟩ | ⟨g, cap, cur, h1, _, _, _, hm, _⟩
  · rw [h1] at e
    injection e with _ _ e
    subst e
    exact Nat.zero_le _
  · rw [h1] at e
    injection e with _ _ e
    subst e
    exact hm
def SetR (w : World) (q : Nat) (e : Ending) (w' : World) : Prop := ∃ v X, e = .returned v ∧ stV q X = true ∧ X.length ≤ 110 ∧ w'.ownsRow w.heap.size 3 1 v X.length (iv X) ∧ Below w.heap.size w w'
theorem set_any (q : Nat) (A : Option Addr) (c : Nat) (l : List Int) (w : World) (hq : 2 ≤ q ∧ q ≤ 97) (hl : l.length ≤ 9223372036854775807) (ha : IntsAt w A l) : Calls Try.prog 46 #[.int .i64 q, .slice A l.length c] w (SetR w q) := by
  obtain ⟨q1, q2⟩ := hq
  have HA := Lib.hid ha
  have o0 : w.ownsRow w.heap.size 3 1 (.slice none 0 0) ([] : List Int).length (iv []) := ⟨rfl, .inl ⟨rfl, rfl⟩⟩
  have b0 : Below w.heap.size w w := Below.refl _ _
  obtain ⟨j0, ji, jz0, jz1, jz2⟩ := info_parts info3
  clear ha
  go_enter Try.func46, Try.ntmps46
  go_wp2
  go_loopw [5, 6] (fun v i wr => ∃ (k : Nat) (X : List Int), k ≤ 110 ∧ k ≤ l.length ∧ X.length ≤ k ∧ i = .int .i64 k ∧ Hid (X = [] ∨ stV q X = true) ∧ wr.ownsRow w.heap.size 3 1 v X.length (iv X) ∧ Below w.heap.size w wr) (fun _ i _ => 110 - (intOf i).toNat)
  case atStart => exact ⟨0, [], by omega, by omega, by simp, rfl, Lib.hid (.inl rfl), o0, b0⟩
  case round =>
    clear o0 b0
    obtain ⟨k, X, hk, hk2, hX, rfl, s0, o0, b0⟩ := hrel
    obtain ⟨A5, c5, e5, h5, h5m, i5⟩ := own_cap o0
    subst e5
    by_cases hlt : k < l.length ∧ k < 110
    · obtain ⟨hlt, hlt2⟩ := hlt
      obtain ⟨b, o, hAe, hb, hc⟩ := (HA.out.below b0) (by omega)
      subst hAe
      have hcell := hc k hlt
      have hyl := modI_lt (geti l k) (n := q) (by omega)
      have HMO := Lib.hid (fun w => mod_any2 (geti l k) q w (by omega) (by omega))
      generalize geti l k = x at *
      generalize modI x q = y at *
      have g1 : decide (k < l.length) = true := decide_eq_true hlt
      have g2 : decide ((k : Int) < 110) = true := decide_eq_true (by omega)
      have hbs := b0.size
      have KS : Hid (∀ w', Below wr.heap.size wr w' → (w'.cell? ⟨b, o + k, none⟩ = some (.int .i64 x) ∧ Hid (Below wr.heap.size wr w'))) := Lib.hid fun w' h => ⟨cell_up h hb hcell, Lib.hid h⟩
      have hlc := list_copy_any A5 c5 X wr.drew h5 h5m (i5.below ((Below.refl _ _).drew))
      rw [List.take_of_length_le (by omega)] at hlc
      have HLC := Lib.hid hlc
      have hdr : Below wr.heap.size wr wr.drew := (Below.refl _ _).drew
      have O0 := Lib.hid o0
      clear hlc hc h5 h5m i5 o0
      go_wp2
      go_region_held3 (fun w' => w'.cell? ⟨b, o + k, none⟩ = some (.int .i64 x) ∧ Hid (Below wr.heap.size wr w')) (first | assumption | exact KS.out _ hdr | exact KS.out _ b8 | exact KS.out _ (b8.alloc b8.size _) | exact KS.out _ b9) ((first
        | ((with_reducible refine HLC.out.mono ?_); rintro e w8 ⟨v8, n8, rfl, o8, b8'⟩; obtain ⟨A8, c8, rfl, hn8, -, i8⟩ := own_intsI o8; subst hn8; have b8 : Below wr.heap.size wr w8 := hdr.trans b8')
        | ((with_reducible refine (HMO.out _).mono ?_); rintro e w9 ⟨rfl, rfl⟩)
        | (refine step_append_own_at rfl (.tmp 19) (.tmp 26) 22 rfl wr.heap.size 3 j0 (.int .i64 0) 1 8 Try.underlying22 ji jz0 jz1 jz2 rfl Nat.zero_lt_one (.slice A8 X.length c8) X.length _ rfl (o8.alloc _) ⟨w8.heap.size, 0, none⟩ 1 1 [.int .i64 (y : Int)] rfl rfl ?_ ?_ ?_ ?_ ?_ ?_; exact news_one (row_new rfl); simp [Value.oneCell']; (unfold maxLen; omega); omega; exact (b8.alloc b8.size _).size; intro v9 w9 o9 hg9; have b9 := b8.trans (app1' o8 b8.size hg9))))
      have oX := Lib.hid (O0.out.kept' b9)
      have oY : w9.ownsRow w.heap.size 3 1 v9 (X ++ [(y : Int)]).length (iv (X ++ [(y : Int)])) := by rw [iv_snoc]; simpa using own_mono o9 hbs
      have hYl : (X ++ [(y : Int)]).length = X.length + 1 := by simp
      have b1 := b0.trans (b9.mono hbs)
      generalize X ++ [(y : Int)] = Y at *
      obtain ⟨A9, c9, rfl, -, -, i9⟩ := own_cap oY
      have OY := Lib.hid oY
      have HYL := Lib.hid hYl
      have hY1 : Y.length ≤ 110 := by omega
      have hY2 : Y.length ≤ k + 1 := by omega
      have HRS := Lib.hid (RefSet_any q A9 c9 Y w9 (by omega) i9)
      clear oY o9 hYl i9 b9 b8 b8' o8 i8 O0 HLC KS HMO hcell
      cases hs : stV q Y
      · have HS := Lib.hid hs
        rw [hs] at HRS
        clear hs
        go_wp2_with (go_at_call 37; with_reducible refine HRS.out.mono ?_; rintro e w10 ⟨rfl, b10⟩)
        go_roundw
        case rel => exact ⟨k + 1, X, by omega, by omega, by omega, by go_num, s0, oX.out.kept' b10, b1.trans (b10.mono b1.size)⟩
        case measure => simp [intOf]; omega
      · have HS := Lib.hid hs
        rw [hs] at HRS
        clear hs
        go_wp2_with (go_at_call 37; with_reducible refine HRS.out.mono ?_; rintro e w10 ⟨rfl, b10⟩)
        go_roundw
        case rel => exact ⟨k + 1, Y, by omega, by omega, by omega, by go_num, Lib.hid (.inr HS.out), OY.out.kept' b10, b1.trans (b10.mono b1.size)⟩
        case measure => simp [intOf]; omega
    · have hbs := b0.size
      have hk110 : X.length ≤ 110 := by omega
      by_cases h1 : k < l.length
      · have g1 : decide (k < l.length) = true := decide_eq_true h1
        have g2 : decide ((k : Int) < 110) = false := decide_eq_false (fun h => hlt ⟨h1, by omega⟩)
        clear hlt h1
        by_cases hX0 : X.length = 0
        · obtain rfl : X = [] := List.eq_nil_of_length_eq_zero hX0
          have hst : stV q [0] = true := stV_of (by simp) (fun x hx => by rw [List.mem_singleton] at hx; subst hx; omega) (by simp)
          have HST := Lib.hid hst
          have hnr : Row (wr.alloc (.cells #[.int .i64 0] 3)) wr.heap.size 3 [.int .i64 0] := row_new rfl
          clear hst hX0
          go_wp2_with (at_builtin; refine wpList_append_own_at _ rfl (.tmp 35) (.tmp 36) 22 rfl w.heap.size 3 j0 (.int .i64 0) 1 8 Try.underlying22 ji jz0 jz1 jz2 rfl (by decide) _ 0 _ rfl (o0.alloc _) ⟨wr.heap.size, 0, none⟩ 1 1 [.int .i64 0] rfl rfl (news_one hnr) (by simp [Value.oneCell']) (by unfold maxLen; omega) (by omega) (by simp; omega) ?_; intro v9 w9 o9 hg9 _ _)
          have b9 := b0.trans (app1' o0 hbs hg9)
          have oY : w9.ownsRow w.heap.size 3 1 v9 ([0] : List Int).length (iv [0]) := o9
          obtain ⟨A9, c9, rfl, -, -⟩ := own_cap oY
          go_ret
          exact ⟨_, [0], rfl, HST.out, by simp, oY, b9⟩
        · have hst : stV q X = true := by rcases s0.out with h | h; exact absurd (by rw [h]; rfl) hX0; exact h
          have HST := Lib.hid hst
          have g3 : ((X.length : Int) == 0) = false := by simp; intro h; exact hX0 (by rw [h]; rfl)
          clear hst hX0
          go_wp2
          go_ret
          exact ⟨.slice A5 X.length c5, X, rfl, HST.out, by omega, o0, b0⟩
      · have g1 : decide (k < l.length) = false := decide_eq_false h1
        clear hlt h1
        by_cases hX0 : X.length = 0
        · obtain rfl : X = [] := List.eq_nil_of_length_eq_zero hX0
          have hst : stV q [0] = true := stV_of (by simp) (fun x hx => by rw [List.mem_singleton] at hx; subst hx; omega) (by simp)
          have HST := Lib.hid hst
          have hnr : Row (wr.alloc (.cells #[.int .i64 0] 3)) wr.heap.size 3 [.int .i64 0] := row_new rfl
          clear hst hX0
          go_wp2_with (at_builtin; refine wpList_append_own_at _ rfl (.tmp 35) (.tmp 36) 22 rfl w.heap.size 3 j0 (.int .i64 0) 1 8 Try.underlying22 ji jz0 jz1 jz2 rfl (by decide) _ 0 _ rfl (o0.alloc _) ⟨wr.heap.size, 0, none⟩ 1 1 [.int .i64 0] rfl rfl (news_one hnr) (by simp [Value.oneCell']) (by unfold maxLen; omega) (by omega) (by simp; omega) ?_; intro v9 w9 o9 hg9 _ _)
          have b9 := b0.trans (app1' o0 hbs hg9)
          have oY : w9.ownsRow w.heap.size 3 1 v9 ([0] : List Int).length (iv [0]) := o9
          obtain ⟨A9, c9, rfl, -, -⟩ := own_cap oY
          go_ret
          exact ⟨_, [0], rfl, HST.out, by simp, oY, b9⟩
        · have hst : stV q X = true := by rcases s0.out with h | h; exact absurd (by rw [h]; rfl) hX0; exact h
          have HST := Lib.hid hst
          have g3 : ((X.length : Int) == 0) = false := by simp; intro h; exact hX0 (by rw [h]; rfl)
          clear hst hX0
          go_wp2
          go_ret
          exact ⟨.slice A5 X.length c5, X, rfl, HST.out, by omega, o0, b0⟩
end Go.Proofs.Ytokjdadgdfmffaa
