/- Removing the loneliest vertex again and again. -/
import Derived.Maps.AppendAt
import Derived.Test.YtmfpegadcecknaaE
import Derived.Test.YtmfpegadcecknaaI
namespace Go.Proofs.Ytmfpegadcecknaa
open Go.RowKit
set_option maxHeartbeats 1000000
set_option maxRecDepth 100000
theorem row_heap' {w : World} {g : Nat} {t : TypeId} {cs : List Value} (h : Row w g t cs) : w.heap[g]? = some (.cells cs.toArray t (0, 0)) := h
theorem info75k : (Try.prog.info? 75).map (·.size) = some 17 := by kernel_rfl
theorem info75' (m : Nat) {gs : List Nat} (h : Rows16 gs) : (Try.prog.info? 75).map (·.size) = some (gcells m gs).toArray.size := by
  have : (gcells m gs).toArray.size = 17 := by simp [gcells_len, h.len]
  rw [this]; exact info75k
theorem peel_any (m : Nat) (gs : List Nat) (hg : Rows16 gs) (hI : Irr gs) (hm : m ≤ 16) (w : World) :
    Calls Try.prog 54 #[.agg (gcells m gs).toArray] w fun e w' => ∃ v1 v2, e = .returned (.tuple #[v1, v2]) ∧
      w'.ownsRow w.heap.size 3 1 v1 (pc 16 (sAll m)) (intv ((peelL gs (pc 16 (sAll m)) (sAll m)).map (·.1))) ∧ w'.ownsRow w.heap.size 3 1 v2 (pc 16 (sAll m)) (intv ((peelL gs (pc 16 (sAll m)) (sAll m)).map (·.2))) ∧ Below w.heap.size w w' := by
  obtain ⟨i0, hi, hz0, hz1, hz2⟩ := info_parts info3
  have hl : (gcells m gs).length = 17 := by rw [gcells_len, hg.len]
  have g0 := gcells_0 m gs
  have tok1 : True := trivial
  have tok2 : True := trivial
  go_enter Try.func54, Try.ntmps54
  go_wp2_with (first
    | (at_make; have _t := tok1; refine wpList_make_own _ rfl _ _ 24 rfl w.heap.size 3 i0 (.int .i64 0) 1 Try.underlying24 hi hz0 hz1 .i64 .i64 _ m rfl rfl rfl (by rw [hz2]; omega) (by unfold maxLen; omega) (by simp) ?_; intro w1 hown1 hg1; clear tok1; have rr1 := (Row.new w 75 (gcells m gs)).grown hg1 (by simp); have cc1 := (rr1.cell 0).trans g0; have hs1 := hg1.size; rw [World.size_alloc] at hown1 hs1)
    | (at_make; have _t := tok2; refine wpList_make_own _ rfl _ _ 24 rfl w.heap.size 3 i0 (.int .i64 0) 1 Try.underlying24 hi hz0 hz1 .i64 .i64 _ m rfl rfl rfl (by rw [hz2]; omega) (by unfold maxLen; omega) (by omega) ?_; intro w2 hown2 hg2; clear tok2; have rr2 := rr1.grown hg2 (by simp); have cc2 := (rr2.cell 0).trans g0; have hs2 := hg2.size)
    | (refine wpList_load_row rfl 75 (.tmp 1) rfl w.heap.size rfl 75 (gcells m gs).toArray (0, 0) _ (row_heap' rr2) Try.underlying75 rfl (info75' m hg) ?_)
    | (go_at_call 58; refine (all_any m gs _ hm hg.len).mono ?_; rintro e w3 ⟨rfl, hb3⟩))
  have lt1 : w.heap.size + 1 < w1.heap.size := by
    rcases hown1.2 with ⟨h, _⟩ | ⟨g, cap, cur, h, _, h2, _⟩
    · cases h
    · injection h with h; injection h with h; injection h with h; subst h
      exact (Array.getElem?_eq_some_iff.1 h2).1
  have rr3 : Row w3 w.heap.size 75 (gcells m gs) := rr2.below hb3
  have o1 := (hown1.kept hg2 (.inr (by simp [Value.ownBlock]))).kept' hb3
  have o2 := hown2.kept' hb3
  have hB3 : Below w.heap.size w w3 := ((((Below.refl _ w).alloc (Nat.le_refl _) _).grown hg1 (by simp) (by simp)).grown hg2 (by omega) (by simp)).trans (hb3.mono (by omega))
  generalize hN : pc 16 (sAll m) = N at *
  have HNN := Lib.hid hN
  have hNl : N ≤ 16 := by rw [← hN]; exact pc_le 16 _
  have hall : sAll m < 65536 := by
    unfold sAll; have := Nat.pow_le_pow_right (n := 2) (by omega) hm; have := Nat.one_le_two_pow (n := m); omega
  clear hN cc1 cc2 rr1 rr2 hown1 hown2
  go_loopw [4, 5, 6, 7, 8] (fun a b c _ _ wr => ∃ (k s : Nat) (dn : List (Nat × Nat)) (v1 v2 : Value), a = v1 ∧ b = v2 ∧ c = .int .u32 s ∧ s < 65536 ∧ dn.length + k = N ∧ pc 16 s = k ∧ dn ++ peelL gs k s = peelL gs N (sAll m) ∧
    wr.ownsRow w.heap.size 3 1 v1 dn.length (intv (dn.map (·.1))) ∧ wr.ownsRow w.heap.size 3 1 v2 dn.length (intv (dn.map (·.2))) ∧ v1.ownBlock ≠ v2.ownBlock ∧ Row wr w.heap.size 75 (gcells m gs) ∧ Below w.heap.size w wr) (fun _ _ c _ _ _ => pc 16 (intOf c).toNat)
  case atStart => exact ⟨N, sAll m, [], _, _, rfl, rfl, rfl, hall, by simp, HNN.out, rfl, o1, o2, by simp [Value.ownBlock]; omega, rr3, hB3⟩
  case round =>
    obtain ⟨k, s, dn, v1, v2, rfl, rfl, rfl, hs, hk, hpc, heq, p1, p2, hne, rr, hB⟩ := hrel
    have HK := Lib.hid hk
    have HP := Lib.hid hpc
    have HE := Lib.hid heq
    have hdl : dn.length ≤ 16 := by omega
    clear hk hpc heq
    by_cases h0 : s = 0
    · subst h0
      have hk0 : k = 0 := by rw [← HP.out]; decide
      subst hk0
      go_wp2
      go_ret2
      have h1 : dn = peelL gs N (sAll m) := by have := HE.out; simpa [peelL] using this
      have h2 : dn.length = N := by have := HK.out; omega
      rw [HNN.out, ← h1]
      rw [h2] at p1 p2
      exact ⟨_, _, rfl, p1, p2, hB⟩
    · have hne0 : ((s:Int) != 0) = true := by simp; omega
      obtain ⟨l1, l2⟩ := lone_mem hI hs h0
      have hpw := pc_without hs l1 l2
      have hwl := without_lt (v := loneB gs s (ms s)) hs
      have HPW := Lib.hid hpw
      have HL := Lib.hid (fun w => loneliest_any m s gs hg hs w)
      have HW1 := Lib.hid (fun w => without_any s (loneB gs s (ms s)) w (Nat.lt_trans hs (by omega)) (Nat.lt_trans l1 (by omega)))
      have hle := hB.size
      have ltb := rr.lt
      clear hpw l2
      have tok1 : True := trivial
      have tok2 : True := trivial
      generalize hlb : loneB gs s (ms s) = LB at *
      generalize hlf : loneF gs s (ms s) = LF at *
      have HLB := Lib.hid hlb
      have HLF := Lib.hid hlf
      clear hlb hlf
      go_wp2_with (first
        | (refine wpList_load_row rfl 75 (.tmp 1) rfl w.heap.size rfl 75 (gcells m gs).toArray (0, 0) _ (row_heap' rr) Try.underlying75 rfl (info75' m hg) ?_)
        | (go_at_call 66; refine (HL.out _).mono ?_; rintro e w4 ⟨rfl, hb4⟩; have p1b := p1.kept' hb4; have p2b := p2.kept' hb4; have rr4 := rr.below hb4; have hs4 := hb4.size)
        | (at_builtin; have _t := tok1; refine wpList_append_own_at _ rfl (.tmp 25) (.tmp 27) 24 rfl w.heap.size 3 i0 (.int .i64 0) 1 8 Try.underlying24 hi hz0 hz1 hz2 rfl (by decide) _ _ _ rfl (p1b.alloc _) ⟨w4.heap.size, 0, none⟩ 1 1 [.int .i64 LB] rfl rfl (cell_one_new _ _ _) (by simp [Value.oneCell']) (by unfold maxLen; omega) (by omega) (by simp; omega) ?_; intro v1c w5 hn1 hgr1 _ hat1; clear tok1; obtain ⟨p2c, hne2, hB5, hrow5⟩ := app2 p1b p2b hne (by omega) hgr1 hat1; have rr5 := hrow5 _ _ _ (by decide) rr4; have hs5 := hB5.size)
        | (at_builtin; have _t := tok2; refine wpList_append_own_at _ rfl (.tmp 29) (.tmp 31) 24 rfl w.heap.size 3 i0 (.int .i64 0) 1 8 Try.underlying24 hi hz0 hz1 hz2 rfl (by decide) _ _ _ rfl (p2c.alloc _) ⟨w5.heap.size, 0, none⟩ 1 1 [.int .i64 LF] rfl rfl (cell_one_new _ _ _) (by simp [Value.oneCell']) (by unfold maxLen; omega) (by omega) (by simp; omega) ?_; intro v2c w6 hn2 hgr2 _ hat2; clear tok2; obtain ⟨p1d, hne3, hB6, hrow6⟩ := app2 p2c hn1 hne2.symm (by omega) hgr2 hat2; have rr6 := hrow6 _ _ _ (by decide) rr5)
        | (go_at_call 67; refine (HW1.out _).mono ?_; rintro e w' ⟨rfl, rfl⟩))
      obtain ⟨k', rfl⟩ : ∃ k', k = k' + 1 := ⟨k - 1, by have := HPW.out; have := HP.out; omega⟩
      go_roundw
      case rel =>
        refine ⟨k', sWithout s LB, dn ++ [(LB, LF)], v1c, v2c, rfl, rfl, rfl, hwl, ?_, ?_, ?_, ?_, ?_, hne3.symm, rr6, ((hB.trans (hb4.mono hle)).trans hB5).trans hB6⟩
        · have := HK.out; simp; omega
        · have := HPW.out; have := HP.out; omega
        · rw [← HE.out, peelL, HLB.out, HLF.out]; simp
        · have e1 : (dn ++ [(LB, LF)]).length = dn.length + 1 := by simp
          have e2 : intv ((dn ++ [(LB, LF)]).map (·.1)) = intv (dn.map (·.1)) ++ [.int .i64 LB] := by simp [intv]
          rw [e1, e2]; exact p1d
        · have e1 : (dn ++ [(LB, LF)]).length = dn.length + 1 := by simp
          have e2 : intv ((dn ++ [(LB, LF)]).map (·.2)) = intv (dn.map (·.2)) ++ [.int .i64 LF] := by simp [intv]
          rw [e1, e2]; exact hn2
      case measure => simp [intOf]; have := HPW.out; omega
end Go.Proofs.Ytmfpegadcecknaa
