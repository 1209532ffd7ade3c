/- First: the first square-free word. -/
import Derived.Test.YtoklnpiehbnalaaAS
import Derived.Test.YtoklnpiehbnalaaAM
namespace Go.Proofs.Ytoklnpiehbnalaa
open Go.RowKit Go.Shelf Go.PlainAid
attribute [local go_sem] Oper.semAt_some
set_option maxHeartbeats 2000000
set_option maxRecDepth 100000
/-- What First hands back. -/
def fiV (n k : Nat) : Value := match (exts k n []).head? with
  | some x => .tuple #[.string (wS x), .int .i64 0]
  | none => .tuple #[.string ⟨#[]⟩, .int .i64 6]
theorem resC2 {P : Program} {F : Func} {tm : Array Value} {i j k m : Nat} {t t' : TypeId} {v u : Value} {W : World} (hF : F.results = #[ResultVar.cell i t, ResultVar.cell j t']) (h0 : tm.getD i undef = .pointer (some ⟨k, 0, none⟩)) (h1 : tm.getD j undef = .pointer (some ⟨m, 0, none⟩))
    (hl : (loadVar t ⟨k, 0, none⟩).run P W = .ok v W) (hl2 : (loadVar t' ⟨m, 0, none⟩).run P W = .ok u W) : (results F tm).run P W = .ok (.tuple #[v, u]) W := by
  have h0' : tm[i]?.getD undef = .pointer (some ⟨k, 0, none⟩) := by simpa using h0
  have h1' : tm[j]?.getD undef = .pointer (some ⟨m, 0, none⟩) := by simpa using h1
  simp [results, hF, h0', h1', asAddr, hl, hl2]
theorem load9 {W : World} {g : Nat} {v : Value} (h : Row W g 9 [v]) : (loadVar 9 ⟨g, 0, none⟩).run Try.prog W = .ok v W := by
  have hc : W.cell? ⟨g, 0, none⟩ = some v := h.cell 0
  simp [go_sem, hc]
theorem load23 {W : World} {g : Nat} {v : Value} (h : Row W g 23 [v]) : (loadVar 23 ⟨g, 0, none⟩).run Try.prog W = .ok v W := by
  have hc : W.cell? ⟨g, 0, none⟩ = some v := h.cell 0
  simp [go_sem, hc]
theorem First_yes (n k : Nat) (w : World) (hn : n ≤ 60) (hk1 : 1 ≤ k) (hk : k ≤ 4) : Calls Try.prog 36 #[.int .i64 n, .int .i64 k] w fun e w' => e = .returned (fiV n k) ∧ Below w.heap.size w w' := by
  have g1 : decide ((n : Int) < 0) = false := decide_eq_false (by omega)
  have g2 : decide ((60 : Int) < (n : Int)) = false := decide_eq_false (by omega)
  have g3 : decide ((k : Int) < 1) = false := decide_eq_false (by omega)
  have g4 : decide ((4 : Int) < (k : Int)) = false := decide_eq_false (by omega)
  refine callsIn_wide.1 (?_ : CallsIn Fence.wide 9 _ _ _ _ _)
  have hO : Open Fence.wide := Open.wide
  have hro : Fence.wide.round = none := rfl
  have F36 := hO.fn 36
  have hF := hO.fn
  have hd := hO.depth
  refine callsIn_of_wp_marks Try.func36 rfl F36 ?_ hro
  simp only [Try.ntmps36, List.size_toArray, List.length_cons, List.length_nil, Nat.reduceAdd, Nat.reduceSub, Array.replicate_succ, Array.replicate_zero, List.push_toArray, List.append_toArray, List.nil_append, List.cons_append]
  gi_wp2_with (gi_at_call 65; refine (hO.lift _ (squareFree_any _ _ _)).mono ?_; rintro e w' ⟨rfl, rfl⟩)
  have u0 : Row ((((w.alloc (.cells #[.string ⟨#[]⟩] 9)).alloc (.cells #[.int .i64 0] 23)).alloc (.cells #[.int .i64 n] 3)).alloc (.cells #[.int .i64 k] 3)) w.heap.size 9 [.string ⟨#[]⟩] := (((row_new rfl).alloc _).alloc _).alloc _
  have u1 : Row ((((w.alloc (.cells #[.string ⟨#[]⟩] 9)).alloc (.cells #[.int .i64 0] 23)).alloc (.cells #[.int .i64 n] 3)).alloc (.cells #[.int .i64 k] 3)) (w.heap.size + 1) 23 [.int .i64 0] := ((row_new (by simp)).alloc _).alloc _
  have t1 : Row ((((w.alloc (.cells #[.string ⟨#[]⟩] 9)).alloc (.cells #[.int .i64 0] 23)).alloc (.cells #[.int .i64 n] 3)).alloc (.cells #[.int .i64 k] 3)) (w.heap.size + 1 + 1) 3 [.int .i64 n] := (row_new (by simp)).alloc _
  have t2 : Row ((((w.alloc (.cells #[.string ⟨#[]⟩] 9)).alloc (.cells #[.int .i64 0] 23)).alloc (.cells #[.int .i64 n] 3)).alloc (.cells #[.int .i64 k] 3)) (w.heap.size + 1 + 1 + 1) 3 [.int .i64 k] := row_new (by simp)
  have bw : Below w.heap.size w ((((w.alloc (.cells #[.string ⟨#[]⟩] 9)).alloc (.cells #[.int .i64 0] 23)).alloc (.cells #[.int .i64 n] 3)).alloc (.cells #[.int .i64 k] 3)) := ((((Below.refl _ w).alloc (Nat.le_refl _) _).alloc (by simp) _).alloc (by simp; omega) _).alloc (by simp; omega) _
  generalize World.alloc _ (.cells #[.int .i64 k] 3) = W0 at *
  have hlt0 := u0.lt
  have hlt2 := t2.lt
  refine range_words (by omega) (w.heap.size + 1 + 1) n k (by omega) (by omega) t1 t2 24 rfl rfl
    (fun pre V => pre = [] ∧ Fr (fun k => k = w.heap.size ∨ k = w.heap.size + 1) W0 V ∧ Row V w.heap.size 9 [.string ⟨#[]⟩] ∧ Row V (w.heap.size + 1) 23 [.int .i64 0])
    (fun c pre V => c = .ret ∧ ∃ x, pre = [x] ∧ Fr (fun k => k = w.heap.size ∨ k = w.heap.size + 1) W0 V ∧ Row V w.heap.size 9 [.string (wS x)] ∧ Row V (w.heap.size + 1) 23 [.int .i64 0])
    (fun pre A C row hs hg hr => ⟨hs.1, abAll_fr (β := Unit) (Nat.le_refl _) () A C row hs.2.1 hg hr, hs.2.2.1.grown hg (fun e => by have := hr _ e.symm; omega), hs.2.2.2.grown hg (fun e => by have := hr _ e.symm; omega)⟩)
    (fun c pre A C row hs hg hr => by
      obtain ⟨hc, x, hp, hfr, q1, q2⟩ := hs
      exact ⟨hc, x, hp, ownFrom_fr (β := Unit) (Nat.le_refl _) () A C row hfr hg hr, row_turn q1 hg (fun r e => (hr r e).2), row_turn q2 hg (fun r e => (hr r e).2)⟩) ⟨rfl, Fr.refl _ _, u0, u1⟩ ?a1 ?assign ?body ?done ?stop
  case assign =>
    intro l B x V K hK
    gi_wp2
    exact hK
  case body =>
    rintro l B pre x V hB ⟨rfl, hfr, hr0, hr1⟩ ⟨hxl, hx⟩
    have hO := hO.inRound l
    obtain ⟨cc0, ff0⟩ := hr0.cells1
    obtain ⟨cc1, ff1⟩ := hr1.cells1
    have hVW := hfr.size
    have hh0 : Row (V.setCell ⟨w.heap.size, 0, none⟩ (.string (wS x))) (w.heap.size + 1) 23 [.int .i64 0] := hr1.far (by dsimp only; omega) _
    obtain ⟨cd1, fd1⟩ := hh0.cells1
    generalize hs : wS x = s at *
    have HS := Lib.hid hs
    clear hs
    gi_wp2
    refine ⟨(KeepA.setLow V (by dsimp only; omega) (fun h => by unfold Box2 at h; dsimp only at h; omega) _).trans (KeepA.setLow _ (by dsimp only; omega) (fun h => by unfold Box2 at h; dsimp only at h; omega) _), rfl, x, rfl, (hfr.setCell (.inl (.inl rfl)) _).setCell (.inl (.inr rfl)) _, ?_, hh0.set 0 _⟩
    rw [HS.out]
    exact (hr0.set 0 _).far (by dsimp only; omega) _
  case done =>
    rintro D V hDV ⟨hnil, hfr, hr0, hr1⟩ hK
    have HW : Hid (fiV n k = .tuple #[.string ⟨#[]⟩, .int .i64 6]) := Lib.hid (by unfold fiV; rw [hnil]; rfl)
    obtain ⟨cc0, ff0⟩ := hr0.cells1
    have hh0 : Row (V.setCell ⟨w.heap.size, 0, none⟩ (.string ⟨#[]⟩)) (w.heap.size + 1) 23 [.int .i64 0] := hr1.far (by dsimp only; omega) _
    obtain ⟨cd1, fd1⟩ := hh0.cells1
    have hh1 := hh0.set 0 (.int .i64 6)
    have hh2 : Row ((V.setCell ⟨w.heap.size, 0, none⟩ (.string ⟨#[]⟩)).setCell ⟨w.heap.size + 1, 0, none⟩ (.int .i64 6)) w.heap.size 9 [.string ⟨#[]⟩] := (hr0.set 0 (.string ⟨#[]⟩)).far (by dsimp only; omega) _
    have mV : Marks [D] ((V.setCell ⟨w.heap.size, 0, none⟩ (.string ⟨#[]⟩)).setCell ⟨w.heap.size + 1, 0, none⟩ (.int .i64 6)) := marks_one (by
      have hVW := hfr.size
      rw [Below.heap_setCell _ _ _ _ (by dsimp only; omega), Below.heap_setCell _ _ _ _ (by dsimp only; omega)]; exact hK)
    have bV : Below w.heap.size w ((V.setCell ⟨w.heap.size, 0, none⟩ (.string ⟨#[]⟩)).setCell ⟨w.heap.size + 1, 0, none⟩ (.int .i64 6)) := ((hfr.under bw (fun i hi => by omega)).setCell (by dsimp only; omega) _).setCell (by dsimp only; omega) _
    clear hnil
    gi_wp2
    refine ret_marks [D] mV (v := .tuple #[.string ⟨#[]⟩, .int .i64 6]) ?_ ⟨by rw [HW.out], shut_below bV (fun E hE => ?_)⟩
    · exact resC2 Try.results36 rfl rfl (load9 (shut_row mV hh2)) (load23 (shut_row mV hh1))
    · have : E = D := by simpa using hE
      have hW0 := bw.size
      omega
  case stop =>
    rintro D c pre V hDV hp ⟨rfl, x, rfl, hfr, hr0, hr1⟩ hK
    have HW : Hid (fiV n k = .tuple #[.string (wS x), .int .i64 0]) := Lib.hid (by
      obtain ⟨t, ht⟩ := hp
      unfold fiV; rw [← ht]; rfl)
    have mV : Marks [D] V := marks_one hK
    have bV := hfr.under bw (fun i hi => by omega)
    gi_wp2
    refine ret_marks [D] mV (v := .tuple #[.string (wS x), .int .i64 0]) ?_ ⟨by rw [HW.out], shut_below bV (fun E hE => ?_)⟩
    · exact resC2 Try.results36 rfl rfl (load9 (shut_row mV hr0)) (load23 (shut_row mV hr1))
    · have : E = D := by simpa using hE
      have hW0 := bw.size
      omega
theorem First_no (n k : Int) (w : World) (h : n < 0 ∨ 60 < n ∨ k < 1 ∨ 4 < k) : Calls Try.prog 36 #[.int .i64 n, .int .i64 k] w fun e w' => e = .returned (.tuple #[.string ⟨#[]⟩, .int .i64 2]) ∧ Below w.heap.size w w' := by
  have u0 : Row ((w.alloc (.cells #[.string ⟨#[]⟩] 9)).alloc (.cells #[.int .i64 2] 23)) w.heap.size 9 [.string ⟨#[]⟩] := (row_new rfl).alloc _
  have u1 : Row ((w.alloc (.cells #[.string ⟨#[]⟩] 9)).alloc (.cells #[.int .i64 2] 23)) (w.heap.size + 1) 23 [.int .i64 2] := row_new (by simp)
  have b0 : Below w.heap.size w ((w.alloc (.cells #[.string ⟨#[]⟩] 9)).alloc (.cells #[.int .i64 2] 23)) := ((Below.refl _ w).alloc (Nat.le_refl _) _).alloc (by simp) _
  refine callsIn_wide.1 (?_ : CallsIn Fence.wide 9 _ _ _ _ _)
  have hO : Open Fence.wide := Open.wide
  have hro : Fence.wide.round = none := rfl
  have F36 := hO.fn 36
  have hF := hO.fn
  have hd := hO.depth
  refine callsIn_of_wp_marks Try.func36 rfl F36 ?_ hro
  simp only [Try.ntmps36, List.size_toArray, List.length_cons, List.length_nil, Nat.reduceAdd, Nat.reduceSub, Array.replicate_succ, Array.replicate_zero, List.push_toArray, List.append_toArray, List.nil_append, List.cons_append]
  by_cases h1 : n < 0
  · have g1 : decide (n < 0) = true := decide_eq_true h1
    clear h h1
    gi_wp2
    exact ret_marks [] ⟨by simp, fun D hD => by cases hD⟩ (v := .tuple #[.string ⟨#[]⟩, .int .i64 2]) (resC2 Try.results36 rfl rfl (load9 u0) (load23 u1)) ⟨rfl, b0⟩
  · have g1 : decide (n < 0) = false := decide_eq_false h1
    by_cases h2 : 60 < n
    · have g2 : decide ((60 : Int) < n) = true := decide_eq_true h2
      clear h h1 h2
      gi_wp2
      exact ret_marks [] ⟨by simp, fun D hD => by cases hD⟩ (v := .tuple #[.string ⟨#[]⟩, .int .i64 2]) (resC2 Try.results36 rfl rfl (load9 u0) (load23 u1)) ⟨rfl, b0⟩
    · have g2 : decide ((60 : Int) < n) = false := decide_eq_false h2
      by_cases h3 : k < 1
      · have g3 : decide (k < 1) = true := decide_eq_true h3
        clear h h1 h2 h3
        gi_wp2
        exact ret_marks [] ⟨by simp, fun D hD => by cases hD⟩ (v := .tuple #[.string ⟨#[]⟩, .int .i64 2]) (resC2 Try.results36 rfl rfl (load9 u0) (load23 u1)) ⟨rfl, b0⟩
      · have g3 : decide (k < 1) = false := decide_eq_false h3
        have g4 : decide ((4 : Int) < k) = true := decide_eq_true (by omega)
        clear h h1 h2 h3
        gi_wp2
        exact ret_marks [] ⟨by simp, fun D hD => by cases hD⟩ (v := .tuple #[.string ⟨#[]⟩, .int .i64 2]) (resC2 Try.results36 rfl rfl (load9 u0) (load23 u1)) ⟨rfl, b0⟩
end Go.Proofs.Ytoklnpiehbnalaa
