/- A list of states, a word: read. -/
import Derived.Test.YtignbpipdfjkeaaDoorBI
import Derived.Test.YtignbpipdfjkeaaDoorMF
namespace Go.Proofs.YtignbpipdfjkeaaDoor
open Go.RowKit Go.PlainAid
set_option maxHeartbeats 2000000
set_option maxRecDepth 100000
/-- What reading a set gives. -/
def setR (n : Nat) (l : List Int) : Nat := if okS n l = true then setL l else 0
theorem setR_no {n : Nat} {l : List Int} (h : okS n l = false) : setR n l = 0 := by unfold setR; rw [h]; rfl
theorem setR_yes {n : Nat} {l : List Int} (h : okS n l = true) : setR n l = setL l := by unfold setR; rw [h]; rfl
theorem readSet_any (L : List (List Int)) (A : Option Addr) (c : Nat) (l : List Int) (w : World) (h : IsMI L) (hl : l.length ≤ 1000) (ha : IntsAt w A l) :
    Calls Tryd.prog 61 #[.agg (iv (mc L)).toArray, .slice A l.length c] w fun e w' => e = .returned (.tuple #[.int .u16 (setR (nS L) l : Nat), .bool (okS (nS L) l)]) ∧ Below w.heap.size w w' := by
  have hi := info76_iv (x := mc L) (mcP_len L 36)
  have hn9 := h.n9
  have HQ := Lib.hid (fun q V => isState_b (mc L) (nS L) q V (mcP_len L 36) (mcP_n L 36))
  have q0 : Row (w.alloc (.cells (iv (mc L)).toArray 76)) w.heap.size 76 (iv (mc L)) := row_new rfl
  have b0 : Below w.heap.size w (w.alloc (.cells (iv (mc L)).toArray 76)) := (Below.refl _ w).alloc (Nat.le_refl _) _
  have HC : Hid (∀ V, Below w.heap.size w V → ∀ k, k < l.length → ∃ b o, A = some ⟨b, o, none⟩ ∧ V.cell? ⟨b, o + k, none⟩ = some (.int .i64 (geti l k))) := Lib.hid (fun V hV k hk => by
    obtain ⟨b, o, e, -, hc⟩ := ha.below hV (by omega)
    exact ⟨b, o, e, hc k hk⟩)
  have HNO := Lib.hid (fun i (hi : i < l.length) => okS_no (n := nS L) hi)
  have HYES := Lib.hid (okS_yes (n := nS L) (l := l))
  have HG0 : Hid (∀ i, i < 0 → goodA (nS L) l i = true) := Lib.hid (fun i hi => absurd hi (Nat.not_lt_zero i))
  have HSS := Lib.hid (setP_succ l)
  have HSL : Hid (setP l l.length = setL l) := Lib.hid rfl
  have HLT := Lib.hid (fun k h => set512 hn9 (setP_set (n := nS L) (l := l) (k := k) h))
  clear ha h
  generalize nS L = n at *
  go_enter Tryd.func61, Tryd.ntmps61
  go_wp2
  go_loopw [6, 7, 12] (fun s b i wr => ∃ k : Nat, i = .int .i64 k ∧ k ≤ l.length ∧ s = .int .u16 (setP l k : Nat) ∧ b = .int .i64 (preB l k) ∧ Row wr w.heap.size 76 (iv (mc L)) ∧ Below w.heap.size w wr ∧ Hid (∀ i, i < k → goodA n l i = true)) (fun _ _ i _ => l.length - (intOf i).toNat)
  case atStart => exact ⟨0, rfl, by omega, rfl, rfl, q0, b0, HG0⟩
  case round =>
    clear q0 b0 HG0
    obtain ⟨k, rfl, hk, rfl, rfl, q0, b0, HG⟩ := hrel
    by_cases hlt : k < l.length
    · have g1 : decide (k < l.length) = true := decide_eq_true hlt
      obtain ⟨bA, oA, rfl, cx⟩ := HC.out wr b0 k hlt
      have HN1 := Lib.hid (HNO.out k hlt)
      have HGA : Hid (goodA n l k = (!decide (geti l k ≤ preB l k) && isQ n (geti l k))) := Lib.hid rfl
      have HP1 : Hid (preB l (k + 1) = geti l k) := Lib.hid rfl
      have HS1 := Lib.hid (HSS.out k)
      have hs5 := HLT.out k HG.out
      have HX := Lib.hid (HQ.out (geti l k))
      have HGK : Hid (goodA n l k = true → ∀ i, i < k + 1 → goodA n l i = true) := Lib.hid (fun hg i hi => by
        rcases Nat.lt_or_ge i k with h | h
        · exact HG.out i h
        · rw [show i = k by omega]; exact hg)
      obtain ⟨p, hp⟩ : ∃ p, preB l k = p := ⟨_, rfl⟩
      obtain ⟨x, hx⟩ : ∃ x, geti l k = x := ⟨_, rfl⟩
      rw [hp, hx] at HGA
      rw [hx] at cx HP1 HS1 HX
      rw [hp]
      clear hp hx
      by_cases h1 : x ≤ p
      · have g2 : decide (x ≤ p) = true := decide_eq_true h1
        have hno := HN1.out (by rw [HGA.out, g2]; rfl)
        have HNN := Lib.hid hno
        clear hno HN1 HGA HP1 HS1 HX HGK HG
        go_wp2
        refine bodyPost_ret (results_tmp2 rfl _ _ _) rfl ⟨?_, b0⟩
        rw [setR_no HNN.out, HNN.out]; rfl
      · have g2 : decide (x ≤ p) = false := decide_eq_false h1
        cases h2 : isQ n x
        · have hno := HN1.out (by rw [HGA.out, h2, Bool.and_false])
          rw [h2] at HX
          have HNN := Lib.hid hno
          clear hno HN1 HGA HP1 HS1 HGK HG h2
          go_wp2_with (first
            | ((with_reducible refine (?_ : wpList _ _ _ (Oper.mk (some 20) _ _ _ _ _ :: _) _ _)); refine wpList_load_row_w rfl 76 (.tmp 2) rfl w.heap.size rfl 76 (iv (mc L)).toArray (0, 0) _ (row_heap q0) Tryd.underlying76 rfl hi ?_)
            | (go_at_call 59; refine (HX.out _).mono ?_; rintro e w3 ⟨rfl, b3⟩; replace b0 := b0.trans (b3.mono b0.size)))
          refine bodyPost_ret (results_tmp2 rfl _ _ _) rfl ⟨?_, b0⟩
          rw [setR_no HNN.out, HNN.out]; rfl
        · have HG2 := Lib.hid (HGK.out (by rw [HGA.out, g2, h2]; rfl))
          rw [h2] at HX
          obtain ⟨v, rfl, hv⟩ : ∃ v : Nat, x = (v : Int) ∧ v < n := by
            simp only [isQ, Bool.and_eq_true, decide_eq_true_eq] at h2
            exact ⟨x.toNat, by omega, by omega⟩
          rw [Int.toNat_natCast] at HS1
          have HW := Lib.hid (fun V => with_any (setP l k) v V (by omega) (by omega))
          clear HN1 HGA HGK HG h2 h1
          go_wp2_with (first
            | ((with_reducible refine (?_ : wpList _ _ _ (Oper.mk (some 20) _ _ _ _ _ :: _) _ _)); refine wpList_load_row_w rfl 76 (.tmp 2) rfl w.heap.size rfl 76 (iv (mc L)).toArray (0, 0) _ (row_heap q0) Tryd.underlying76 rfl hi ?_)
            | (go_at_call 59; refine (HX.out _).mono ?_; rintro e w3 ⟨rfl, b3⟩; replace q0 := q0.below b3; replace b0 := b0.trans (b3.mono b0.size))
            | (go_at_call 60; refine (HW.out _).mono ?_; rintro e w4 ⟨rfl, rfl⟩))
          go_roundw
          case rel => exact ⟨k + 1, by go_num, by omega, by rw [HS1.out], by rw [HP1.out], q0, b0, HG2⟩
          case measure => simp [intOf]; omega
    · obtain rfl : k = l.length := by omega
      have g1 : decide (l.length < l.length) = false := decide_eq_false hlt
      have hy := Lib.hid (HYES.out HG.out)
      go_wp2
      refine bodyPost_ret (results_tmp2 rfl _ _ _) rfl ⟨?_, b0⟩
      rw [setR_yes hy.out, hy.out, ← HSL.out]; rfl
end Go.Proofs.YtignbpipdfjkeaaDoor
