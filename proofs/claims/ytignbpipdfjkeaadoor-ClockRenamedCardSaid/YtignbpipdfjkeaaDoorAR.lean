/- Slow. -/
import Derived.Test.YtignbpipdfjkeaaDoorAQ
namespace Go.Proofs.YtignbpipdfjkeaaDoor
open Go.RowKit
set_option maxHeartbeats 1000000
set_option maxRecDepth 100000
theorem make_ints (n : Nat) (hn : n ≤ 1000000) (W : World) : (Instr.makeSlice 29 (.int .i64 n) (.int .i64 n)).run Tryd.prog W = .ok (.slice (some ⟨W.heap.size, 0, none⟩) n n) (W.alloc (.cells (iv (List.replicate n 0)).toArray 3)) := by
  obtain ⟨j0, ji, jz0, jz1, jz2⟩ := info_parts info3
  have h := run_make (P := Tryd.prog) W 29 3 j0 (.int .i64 0) Tryd.underlying29 ji jz0 .i64 .i64 n n (by omega) (by omega) (by rw [jz2]; omega) (by omega)
  rw [jz1, Int.toNat_natCast] at h
  have e : madeCells (Value.int .i64 0).cells (n * 1) = (iv (List.replicate n 0)).toArray := by
    apply Array.ext'
    rw [made_ints]
    unfold iv intv
    rw [List.map_replicate, List.map_replicate]; rfl
  rw [h, e]
/-- The first numbers of a list of n are filled. -/
def slP (f : Nat → Int) (n k : Nat) : List Int := (List.range n).map fun i => if i < k then f i else 0
theorem slP_len (f : Nat → Int) (n k : Nat) : (slP f n k).length = n := by simp [slP]
theorem slP_zero (f : Nat → Int) (n : Nat) : slP f n 0 = List.replicate n 0 := by
  unfold slP
  apply List.ext_getElem (by simp)
  intro i h1 h2; simp
theorem geti_slP {f : Nat → Int} {n k i : Nat} (h : i < n) : geti (slP f n k) i = if i < k then f i else 0 := by
  rw [geti_eq (by rw [slP_len]; exact h)]; simp [slP]
theorem slP_step (f : Nat → Int) {n k : Nat} (h : k < n) : (slP f n k).set k (f k) = slP f n (k + 1) := by
  refine ext_geti (by rw [List.length_set, slP_len, slP_len]) (fun i hi => ?_)
  rw [List.length_set, slP_len] at hi
  rw [geti_set (by rw [slP_len]; exact h), geti_slP hi, geti_slP hi]
  by_cases e : k = i
  · subst e; rw [if_pos rfl, if_pos (by omega)]
  · rw [if_neg e]
    by_cases e2 : i < k
    · rw [if_pos e2, if_pos (by omega)]
    · rw [if_neg e2, if_neg (by omega)]
/-- The lists of the slow machine. -/
def slA (n : Nat) : List Int := (slP (fun i => i + 1) n n).set (n - 1) 0
def slB (n : Nat) : List Int := (slP (fun i => i) n n).set (n - 1) 0
theorem results_tmp2 {fn : Func} {t u : Tmp} (h : fn.results = #[.tmp t, .tmp u]) (tmps : Array Value) (P : Program) (w : World) :
    (results fn tmps).run P w = .ok (.tuple #[tmps.getD t undef, tmps.getD u undef]) w := by
  simp [results, h]
def SlowR (w : World) (n : Nat) (e : Ending) (w' : World) : Prop :=
  ∃ g a b, e = .returned (.tuple #[.slice (some ⟨g, 0, none⟩) 2 2, .int .i64 0]) ∧ Row w' g 29 [.slice (some ⟨a, 0, none⟩) n n, .slice (some ⟨b, 0, none⟩) n n] ∧ Row w' a 3 (iv (slA n)) ∧ Row w' b 3 (iv (slB n)) ∧ w.heap.size ≤ a ∧ w.heap.size ≤ b ∧ w.heap.size ≤ g ∧ a ≠ b ∧ Below w.heap.size w w'
theorem Slow_no (n : Int) (w : World) (h : n < 1 ∨ 9 < n) : Calls Tryd.prog 39 #[.int .i64 n] w fun e w' => e = .returned (.tuple #[.slice none 0 0, .int .i64 2]) ∧ w = w' := by
  by_cases h1 : n < 1
  · have g1 : decide (n < 1) = true := decide_eq_true h1
    go_enter Tryd.func39, Tryd.ntmps39
    go_wp2
    go_ret2
    exact ⟨rfl, rfl⟩
  · have g1 : decide (n < 1) = false := decide_eq_false h1
    have g2 : decide (9 < n) = true := decide_eq_true (by omega)
    clear h1 h
    go_enter Tryd.func39, Tryd.ntmps39
    go_wp2
    go_ret2
    exact ⟨rfl, rfl⟩
theorem Slow_yes (n : Nat) (w : World) (h1 : 1 ≤ n) (h9 : n ≤ 9) : Calls Tryd.prog 39 #[.int .i64 n] w (SlowR w n) := by
  have g1 : decide (n < 1) = false := decide_eq_false (by omega)
  have g2 : decide ((9 : Int) < (n : Int)) = false := decide_eq_false (by omega)
  have hmk := make_ints n (by omega)
  have H00 : Hid (∀ f : Nat → Int, slP f n 0 = List.replicate n 0) := Lib.hid (fun f => slP_zero f n)
  have HST : Hid (∀ (f : Nat → Int) k, k < n → (slP f n k).set k (f k) = slP f n (k + 1)) := Lib.hid (fun f k hk => slP_step f hk)
  have HLN : Hid (∀ (f : Nat → Int) k, (slP f n k).length = n) := Lib.hid (fun f k => slP_len f n k)
  go_enter Tryd.func39, Tryd.ntmps39
  go_wp2
  go_region_held3 (fun _ => True) (trivial) (fail)
  · have q1 : Row (((w.alloc (.cells (iv (List.replicate n 0)).toArray 3)).alloc (.cells (iv (List.replicate n 0)).toArray 3)).drew) (w.heap.size) 3 (iv (slP (fun i => i + 1) n 0)) := by rw [H00.out]; exact (Row.alloc (row_new rfl) _).drew
    have q2 : Row (((w.alloc (.cells (iv (List.replicate n 0)).toArray 3)).alloc (.cells (iv (List.replicate n 0)).toArray 3)).drew) (w.heap.size + 1) 3 (iv (slP (fun i => i) n 0)) := by rw [H00.out]; exact (row_new (by simp)).drew
    have b1 : Below w.heap.size w (((w.alloc (.cells (iv (List.replicate n 0)).toArray 3)).alloc (.cells (iv (List.replicate n 0)).toArray 3)).drew) := (((Below.refl _ w).alloc (Nat.le_refl _) _).alloc (by simp) _).drew
    obtain ⟨ga, hga⟩ : ∃ ga, ga = w.heap.size := ⟨_, rfl⟩
    obtain ⟨gb, hgb⟩ : ∃ gb, gb = w.heap.size + 1 := ⟨_, rfl⟩
    have hab : ga ≠ gb := by omega
    have ha0 : w.heap.size ≤ ga := by omega
    have hb0 : w.heap.size ≤ gb := by omega
    generalize World.drew _ = V at *
    rw [← hgb] at q2 ⊢
    rw [← hga] at q1 ⊢
    clear hga hgb
    go_wp2
    go_loopw [18] (fun v wr => ∃ k : Nat, k ≤ n ∧ v = .int .i64 k ∧ Row wr ga 3 (iv (slP (fun i => i + 1) n k)) ∧ Row wr gb 3 (iv (slP (fun i => i) n k)) ∧ Below w.heap.size w wr) (fun v _ => n - (intOf v).toNat)
    case atStart => exact ⟨0, by omega, rfl, q1, q2, b1⟩
    case round =>
      clear q1 q2 b1
      obtain ⟨k, hk, rfl, q1, q2, b1⟩ := hrel
      by_cases hlt : k < n
      · have g5 : decide (k < n) = true := decide_eq_true hlt
        have e1 := ivR q1 (i := k) (by rw [HLN.out _ _]; exact hlt)
        have e2 := ivR q2 (i := k) (by rw [HLN.out _ _]; exact hlt)
        have f1 := q1.free k
        have f2 := q2.free k
        have HA1 := Lib.hid (HST.out (fun i => i + 1) k hlt)
        have HA2 := Lib.hid (HST.out (fun i => i) k hlt)
        go_wp2
        go_roundw
        case rel =>
          refine ⟨k + 1, by omega, by go_num, ?_, ?_, (b1.setCell (by dsimp only; omega) _).setCell (by dsimp only; omega) _⟩
          · have h := (q1.set k (.int .i64 ((k : Int) + 1))).far (p := ⟨gb, k, none⟩) hab (.int .i64 (k : Int))
            rw [iv_set, HA1.out] at h
            exact h
          · have h := (q2.far (p := ⟨ga, k, none⟩) (Ne.symm hab) (.int .i64 ((k : Int) + 1))).set k (.int .i64 (k : Int))
            rw [iv_set, HA2.out] at h
            exact h
        case measure => simp [intOf]; omega
      · obtain rfl : k = n := by omega
        have e1 := ivR q1 (i := k - 1) (by rw [HLN.out _ _]; omega)
        have e2 := ivR q2 (i := k - 1) (by rw [HLN.out _ _]; omega)
        have f1 := q1.free (k - 1)
        have f2 := q2.free (k - 1)
        have hk1 : ((k : Int) - 1) = ((k - 1 : Nat) : Int) := by omega
        obtain ⟨m, hm⟩ : ∃ m, k - 1 = m := ⟨_, rfl⟩
        have hmk : m < k := by omega
        have HMM := Lib.hid hm
        rw [hm] at e1 e2 f1 f2 hk1
        clear hm g1 g2
        have g5 : decide (k < k) = false := decide_eq_false (by omega)
        go_wp2
        refine bodyPost_ret (results_tmp2 rfl _ _ _) rfl ⟨_, ga, gb, rfl, row_new (by simp), ?_, ?_, ha0, hb0, ?_, hab, ?_⟩
        · have h := (((q1.set m (.int .i64 0)).far (p := ⟨gb, m, none⟩) hab (.int .i64 0))).alloc (.cells #[.slice (some ⟨ga, 0, none⟩) k k, .slice (some ⟨gb, 0, none⟩) k k] 29)
          rw [iv_set, ← HMM.out] at h
          rw [← HMM.out]
          exact h
        · have h := (((q2.far (p := ⟨ga, m, none⟩) (Ne.symm hab) (.int .i64 0)).set m (.int .i64 0))).alloc (.cells #[.slice (some ⟨ga, 0, none⟩) k k, .slice (some ⟨gb, 0, none⟩) k k] 29)
          rw [iv_set, ← HMM.out] at h
          rw [← HMM.out]
          exact h
        · have := b1.size; simp; omega
        · refine Below.alloc ((b1.setCell (by dsimp only; omega) _).setCell (by dsimp only; omega) _) ?_ _
          have := b1.size; simp; omega
  · have q1 : Row (((w.alloc (.cells (iv (List.replicate n 0)).toArray 3)).alloc (.cells (iv (List.replicate n 0)).toArray 3)).drew) (w.heap.size + 1) 3 (iv (slP (fun i => i + 1) n 0)) := by rw [H00.out]; exact (row_new (by simp)).drew
    have q2 : Row (((w.alloc (.cells (iv (List.replicate n 0)).toArray 3)).alloc (.cells (iv (List.replicate n 0)).toArray 3)).drew) (w.heap.size) 3 (iv (slP (fun i => i) n 0)) := by rw [H00.out]; exact (Row.alloc (row_new rfl) _).drew
    have b1 : Below w.heap.size w (((w.alloc (.cells (iv (List.replicate n 0)).toArray 3)).alloc (.cells (iv (List.replicate n 0)).toArray 3)).drew) := (((Below.refl _ w).alloc (Nat.le_refl _) _).alloc (by simp) _).drew
    obtain ⟨ga, hga⟩ : ∃ ga, ga = w.heap.size + 1 := ⟨_, rfl⟩
    obtain ⟨gb, hgb⟩ : ∃ gb, gb = w.heap.size := ⟨_, rfl⟩
    have hab : ga ≠ gb := by omega
    have ha0 : w.heap.size ≤ ga := by omega
    have hb0 : w.heap.size ≤ gb := by omega
    generalize World.drew _ = V at *
    rw [← hga] at q1 ⊢
    rw [← hgb] at q2 ⊢
    clear hga hgb
    go_wp2
    go_loopw [18] (fun v wr => ∃ k : Nat, k ≤ n ∧ v = .int .i64 k ∧ Row wr ga 3 (iv (slP (fun i => i + 1) n k)) ∧ Row wr gb 3 (iv (slP (fun i => i) n k)) ∧ Below w.heap.size w wr) (fun v _ => n - (intOf v).toNat)
    case atStart => exact ⟨0, by omega, rfl, q1, q2, b1⟩
    case round =>
      clear q1 q2 b1
      obtain ⟨k, hk, rfl, q1, q2, b1⟩ := hrel
      by_cases hlt : k < n
      · have g5 : decide (k < n) = true := decide_eq_true hlt
        have e1 := ivR q1 (i := k) (by rw [HLN.out _ _]; exact hlt)
        have e2 := ivR q2 (i := k) (by rw [HLN.out _ _]; exact hlt)
        have f1 := q1.free k
        have f2 := q2.free k
        have HA1 := Lib.hid (HST.out (fun i => i + 1) k hlt)
        have HA2 := Lib.hid (HST.out (fun i => i) k hlt)
        go_wp2
        go_roundw
        case rel =>
          refine ⟨k + 1, by omega, by go_num, ?_, ?_, (b1.setCell (by dsimp only; omega) _).setCell (by dsimp only; omega) _⟩
          · have h := (q1.set k (.int .i64 ((k : Int) + 1))).far (p := ⟨gb, k, none⟩) hab (.int .i64 (k : Int))
            rw [iv_set, HA1.out] at h
            exact h
          · have h := (q2.far (p := ⟨ga, k, none⟩) (Ne.symm hab) (.int .i64 ((k : Int) + 1))).set k (.int .i64 (k : Int))
            rw [iv_set, HA2.out] at h
            exact h
        case measure => simp [intOf]; omega
      · obtain rfl : k = n := by omega
        have e1 := ivR q1 (i := k - 1) (by rw [HLN.out _ _]; omega)
        have e2 := ivR q2 (i := k - 1) (by rw [HLN.out _ _]; omega)
        have f1 := q1.free (k - 1)
        have f2 := q2.free (k - 1)
        have hk1 : ((k : Int) - 1) = ((k - 1 : Nat) : Int) := by omega
        obtain ⟨m, hm⟩ : ∃ m, k - 1 = m := ⟨_, rfl⟩
        have hmk : m < k := by omega
        have HMM := Lib.hid hm
        rw [hm] at e1 e2 f1 f2 hk1
        clear hm g1 g2
        have g5 : decide (k < k) = false := decide_eq_false (by omega)
        go_wp2
        refine bodyPost_ret (results_tmp2 rfl _ _ _) rfl ⟨_, ga, gb, rfl, row_new (by simp), ?_, ?_, ha0, hb0, ?_, hab, ?_⟩
        · have h := (((q1.set m (.int .i64 0)).far (p := ⟨gb, m, none⟩) hab (.int .i64 0))).alloc (.cells #[.slice (some ⟨ga, 0, none⟩) k k, .slice (some ⟨gb, 0, none⟩) k k] 29)
          rw [iv_set, ← HMM.out] at h
          rw [← HMM.out]
          exact h
        · have h := (((q2.far (p := ⟨ga, m, none⟩) (Ne.symm hab) (.int .i64 0)).set m (.int .i64 0))).alloc (.cells #[.slice (some ⟨ga, 0, none⟩) k k, .slice (some ⟨gb, 0, none⟩) k k] 29)
          rw [iv_set, ← HMM.out] at h
          rw [← HMM.out]
          exact h
        · have := b1.size; simp; omega
        · refine Below.alloc ((b1.setCell (by dsimp only; omega) _).setCell (by dsimp only; omega) _) ?_ _
          have := b1.size; simp; omega
end Go.Proofs.YtignbpipdfjkeaaDoor
