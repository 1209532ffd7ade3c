/- The first square-free word whose image is not square-free. -/
import Derived.Test.YtoklnpiehbnalaaAV
import Derived.Test.YtoklnpiehbnalaaAT
namespace Go.Proofs.Ytoklnpiehbnalaa
open Go.RowKit Go.Shelf Go.PlainAid
attribute [local go_sem] Oper.semAt_some
set_option maxHeartbeats 2000000
set_option maxRecDepth 100000
/-- The image of a word has a square. -/
def brk (ms : List (List Nat)) (x : List Nat) : Bool := !free (imW ms x)
/-- The first such word of those with n to 10 letters. -/
def kpF (ms : List (List Nat)) : Nat → Nat → Option (List Nat)
  | 0, _ => none
  | r + 1, n => match (exts 3 n []).find? (brk ms) with
    | some x => some x
    | none => kpF ms r (n + 1)
def kpX (ms : List (List Nat)) : Option (List Nat) := kpF ms 11 0
theorem kpF_next {ms : List (List Nat)} {r n : Nat} (h : ∀ x ∈ exts 3 n [], brk ms x = false) : kpF ms (r + 1) n = kpF ms r (n + 1) := by
  have : (exts 3 n []).find? (brk ms) = none := by
    rw [List.find?_eq_none]
    intro x hx
    rw [h x hx]; exact Bool.false_ne_true
  show (match (exts 3 n []).find? (brk ms) with | some x => some x | none => kpF ms r (n + 1)) = _
  rw [this]
theorem find_pre {α : Type} {q : α → Bool} {L pre : List α} {x : α} (h : pre ++ [x] <+: L) (h1 : ∀ y ∈ pre, q y = false) (h2 : q x = true) : L.find? q = some x := by
  obtain ⟨t, rfl⟩ := h
  rw [List.append_assoc, List.find?_append]
  have : pre.find? q = none := by
    rw [List.find?_eq_none]
    intro y hy
    rw [h1 y hy]; exact Bool.false_ne_true
  rw [this]
  simp [h2]
theorem kpF_hit {ms : List (List Nat)} {r n : Nat} {pre : List (List Nat)} {x : List Nat} (hp : pre ++ [x] <+: exts 3 n []) (h1 : ∀ y ∈ pre, brk ms y = false) (h2 : brk ms x = true) : kpF ms (r + 1) n = some x := by
  show (match (exts 3 n []).find? (brk ms) with | some x => some x | none => kpF ms r (n + 1)) = _
  rw [find_pre hp h1 h2]
/-- What firstBroken hands back. -/
def fbV (o : Option (List Nat)) : Value := match o with
  | some x => .tuple #[.string (wS x), .bool true]
  | none => .tuple #[.string ⟨#[]⟩, .bool false]
theorem load4 {W : World} {g : Nat} {v : Value} (h : Row W g 4 [v]) : (loadVar 4 ⟨g, 0, none⟩).run Try.prog W = .ok v W := by
  have hc : W.cell? ⟨g, 0, none⟩ = some v := h.cell 0
  simp [go_sem, hc]
theorem lit3N {ms : List (List Nat)} (h : ms.length = 3) : ∃ a b c, ms = [a, b, c] := by
  match ms, h with
  | [a, b, c], _ => exact ⟨a, b, c, rfl⟩
theorem firstBroken_any (ms : List (List Nat)) (w : World) (hm : IsMp ms) : Calls Try.prog 70 #[.agg (mpV ms).toArray] w fun e w' => e = .returned (fbV (kpX ms)) ∧ Below w.heap.size w w' := by
  obtain ⟨x0, x1, x2, hms⟩ := lit3N hm.len
  obtain ⟨s0, s1, s2, hmp⟩ : ∃ s0 s1 s2, mpV ms = [.string s0, .string s1, .string s2] := ⟨wS x0, wS x1, wS x2, by rw [hms]; rfl⟩
  have HOF : Hid (∀ (x : List Nat) (V : World), letW 3 x → x.length ≤ 10 → Calls Try.prog 69 #[.agg #[.string s0, .string s1, .string s2], .string (wS x)] V fun e w' => e = .returned (.string (wS (imW ms x))) ∧ Below V.heap.size V w') := Lib.hid (fun x V h h2 => by
    have := of_any ms x V hm h (by omega)
    rw [hmp] at this
    exact this)
  have HSF : Hid (∀ (x : List Nat) (V : World), letW 3 x → x.length ≤ 10 → Calls Try.prog 64 #[.string (wS (imW ms x))] V fun e w' => e = .returned (.bool (!brk ms x)) ∧ ∃ n, w' = V.drewN n) := Lib.hid (fun x V h h2 => by
    have h3 := imW_len hm h
    have := isSquareFree_any (imW ms x) V (imW_ok hm h) (by omega)
    unfold brk
    rw [Bool.not_not]
    exact this)
  rw [hmp]
  have hms := (0 : Nat)
  clear hm hmp
  refine callsIn_wide.1 (?_ : CallsIn Fence.wide 9 _ _ _ _ _)
  have hO : Open Fence.wide := Open.wide
  have hro : Fence.wide.round = none := rfl
  have F70 := hO.fn 70
  have hF := hO.fn
  have hd := hO.depth
  refine callsIn_of_wp_marks Try.func70 rfl F70 ?_ hro
  simp only [Try.ntmps70, List.size_toArray, List.length_cons, List.length_nil, Nat.reduceAdd, Nat.reduceSub, Array.replicate_succ, Array.replicate_zero, List.push_toArray, List.append_toArray, List.nil_append, List.cons_append]
  have r1 : Row (((w.alloc (.cells #[.string s0, .string s1, .string s2] 87)).alloc (.cells #[.string ⟨#[]⟩] 9)).alloc (.cells #[.bool false] 4)) w.heap.size 87 [.string s0, .string s1, .string s2] := ((row_new rfl).alloc _).alloc _
  have r2 : Row (((w.alloc (.cells #[.string s0, .string s1, .string s2] 87)).alloc (.cells #[.string ⟨#[]⟩] 9)).alloc (.cells #[.bool false] 4)) (w.heap.size + 1) 9 [.string ⟨#[]⟩] := (row_new (by simp)).alloc _
  have r3 : Row (((w.alloc (.cells #[.string s0, .string s1, .string s2] 87)).alloc (.cells #[.string ⟨#[]⟩] 9)).alloc (.cells #[.bool false] 4)) (w.heap.size + 1 + 1) 4 [.bool false] := row_new (by simp)
  have b0 : Below w.heap.size w (((w.alloc (.cells #[.string s0, .string s1, .string s2] 87)).alloc (.cells #[.string ⟨#[]⟩] 9)).alloc (.cells #[.bool false] 4)) := (((Below.refl _ w).alloc (Nat.le_refl _) _).alloc (by simp) _).alloc (by simp; omega) _
  gi_wp2
  refine wpIn_loop_ghost (fun k a W => ∃ (u4 u7 u8 u9 u10 u11 u12 u13 u14 u15 u16 u17 u18 : Value) (Ds : List Nat) (n r : Nat), a = { tmps := #[.agg #[.string s0, .string s1, .string s2], .pointer (some ⟨w.heap.size, 0, none⟩), .pointer (some ⟨w.heap.size + 1, 0, none⟩), .pointer (some ⟨w.heap.size + 1 + 1, 0, none⟩), u4, undef, .int .i64 n, u7, u8, u9, u10, u11, u12, u13, u14, u15, u16, u17, u18], defers := Ds.map mark } ∧ k = 20 - n ∧ n ≤ 11 ∧ kpX ms = kpF ms r n ∧ r + n = 11 ∧
    Row W w.heap.size 87 [.string s0, .string s1, .string s2] ∧ Row W (w.heap.size + 1) 9 [.string ⟨#[]⟩] ∧ Row W (w.heap.size + 1 + 1) 4 [.bool false] ∧ Below w.heap.size w W ∧ Marks Ds W ∧ ∀ D ∈ Ds, w.heap.size ≤ D) 20 ⟨undef, undef, undef, undef, undef, undef, undef, undef, undef, undef, undef, undef, undef, [], 0, 11, rfl, rfl, by omega, rfl, by omega, r1, r2, r3, b0, ⟨by simp, fun D hD => by cases hD⟩, fun D hD => by cases hD⟩ ?_
  clear r1 r2 r3 b0
  rintro k a W ⟨u4, u7, u8, u9, u10, u11, u12, u13, u14, u15, u16, u17, u18, Ds, n, r, rfl, hk, hn, hkp, hr, r1, r2, r3, b0, hm, hD⟩
  have HKP := Lib.hid hkp
  have HR := Lib.hid hr
  have HKK := Lib.hid hk
  clear hkp hr hk
  by_cases hlt : n < 11
  · have g1 : decide ((n : Int) < 11) = true := decide_eq_true (by omega)
    obtain ⟨r, rfl⟩ : ∃ r', r = r' + 1 := ⟨r - 1, by have := HR.out; omega⟩
    gi_wp2_with (gi_at_call 65; refine (hO.lift _ (squareFree_any _ _ _)).mono ?_; rintro e w' ⟨rfl, rfl⟩)
    have q0 : Row ((W.alloc (.cells #[.int .i64 n] 3)).alloc (.cells #[.int .i64 3] 3)) W.heap.size 3 [.int .i64 n] := (row_new rfl).alloc _
    have q1 : Row ((W.alloc (.cells #[.int .i64 n] 3)).alloc (.cells #[.int .i64 3] 3)) (W.heap.size + 1) 3 [.int .i64 (3 : Nat)] := row_new (by simp)
    have t1 := (r1.alloc (.cells #[.int .i64 n] 3)).alloc (.cells #[.int .i64 3] 3)
    have t2 := (r2.alloc (.cells #[.int .i64 n] 3)).alloc (.cells #[.int .i64 3] 3)
    have t3 := (r3.alloc (.cells #[.int .i64 n] 3)).alloc (.cells #[.int .i64 3] 3)
    have bW : Below W.heap.size W ((W.alloc (.cells #[.int .i64 n] 3)).alloc (.cells #[.int .i64 3] 3)) := ((Below.refl _ W).alloc (Nat.le_refl _) _).alloc (by simp) _
    have mW : Marks Ds ((W.alloc (.cells #[.int .i64 n] 3)).alloc (.cells #[.int .i64 3] 3)) := ⟨hm.1, fun D hd => (bW.block D (hm.lt hd)).trans (hm.2 D hd)⟩
    have hz0 : W.heap.size + 2 = ((W.alloc (.cells #[.int .i64 n] 3)).alloc (.cells #[.int .i64 3] 3)).heap.size := by simp
    have bw0 := b0.trans (bW.mono b0.size)
    have hb0 := b0.size
    have hlt1 := r1.lt
    have hlt2 := r2.lt
    have hlt3 := r3.lt
    generalize World.alloc _ (.cells #[.int .i64 3] 3) = W0 at *
    refine range_words (by omega) W.heap.size n 3 (by omega) (by omega) q0 q1 11 rfl rfl
      (fun pre V => Fr (fun k => k = w.heap.size + 1 ∨ k = w.heap.size + 1 + 1) W0 V ∧ Row V (w.heap.size + 1) 9 [.string ⟨#[]⟩] ∧ Row V (w.heap.size + 1 + 1) 4 [.bool false] ∧ ∀ y ∈ pre, brk ms y = false)
      (fun c pre V => c = .ret ∧ ∃ ps x, pre = ps ++ [x] ∧ Fr (fun k => k = w.heap.size + 1 ∨ k = w.heap.size + 1 + 1) W0 V ∧ Row V (w.heap.size + 1) 9 [.string (wS x)] ∧ Row V (w.heap.size + 1 + 1) 4 [.bool true] ∧ (∀ y ∈ ps, brk ms y = false) ∧ brk ms x = true)
      (fun pre A C row hs hg hr => ⟨abAll_fr (β := Unit) (Nat.le_refl _) () A C row hs.1 hg hr, hs.2.1.grown hg (fun e => by have := hr _ e.symm; omega), hs.2.2.1.grown hg (fun e => by have := hr _ e.symm; omega), hs.2.2.2⟩)
      (fun c pre A C row hs hg hr => by
        obtain ⟨hc, ps, x, hp, hfr, q1, q2, h1, h2⟩ := hs
        exact ⟨hc, ps, x, hp, ownFrom_fr (β := Unit) (Nat.le_refl _) () A C row hfr hg hr, row_turn q1 hg (fun r e => (hr r e).2), row_turn q2 hg (fun r e => (hr r e).2), h1, h2⟩) ⟨Fr.refl _ _, t2, t3, fun y hy => by cases hy⟩ ?a1 ?assign ?body ?done ?stop
    case assign =>
      intro l B x V K hK
      gi_wp2
      exact hK
    case body =>
      rintro l B pre x V hB ⟨hfr, hr2, hr3, hpre⟩ ⟨hxl, hx⟩
      have v1 : Row V w.heap.size 87 [.string s0, .string s1, .string s2] := t1.fr hfr (by omega)
      have k0 : V.cell? ⟨w.heap.size, 0, none⟩ = some (.string s0) := v1.cell 0
      have k1 : V.cell? ⟨w.heap.size, 1, none⟩ = some (.string s1) := v1.cell 1
      have k2 : V.cell? ⟨w.heap.size, 2, none⟩ = some (.string s2) := v1.cell 2
      have HO1 := Lib.hid (fun V => HOF.out x V hx (by omega))
      have HS1 := Lib.hid (fun V => HSF.out x V hx (by omega))
      have hO := hO.inRound l
      have hVW := hfr.size
      cases hfv : brk ms x
      · rw [hfv] at HS1
        have HPRE : Hid (∀ y ∈ pre ++ [x], brk ms y = false) := Lib.hid (fun y hy => by
          rcases List.mem_append.1 hy with h | h
          · exact hpre y h
          · have : y = x := by simpa using h
            rw [this, hfv])
        clear hpre hfv
        generalize wS x = s at *
        generalize wS (imW ms x) = t at *
        gi_wp2_with (first
          | (gi_at_call 69; refine (hO.lift _ (HO1.out _)).mono ?_; rintro e V2 ⟨rfl, b2⟩)
          | (gi_at_call 64; refine (hO.lift _ (HS1.out _)).mono ?_; rintro e V3 ⟨rfl, m3, rfl⟩))
        exact ⟨(KeepA.of_below b2).trans (KeepA.of_below (below_drewN m3)), (hfr.then_below b2).drewN m3, (hr2.below b2).drewN m3, (hr3.below b2).drewN m3, HPRE.out⟩
      · rw [hfv] at HS1
        have HPRE := Lib.hid hpre
        have HFV := Lib.hid hfv
        clear hpre hfv
        generalize hs : wS x = s at *
        generalize wS (imW ms x) = t at *
        have HSX := Lib.hid hs
        clear hs
        gi_wp2_with (first
          | (gi_at_call 69; refine (hO.lift _ (HO1.out _)).mono ?_; rintro e V2 ⟨rfl, b2⟩)
          | (gi_at_call 64; refine (hO.lift _ (HS1.out _)).mono ?_; rintro e V3 ⟨rfl, m3, rfl⟩; have j2 := (hr2.below b2).drewN m3; have j3 := (hr3.below b2).drewN m3; obtain ⟨cc2, ff2⟩ := j2.cells1; have j3' := j3.far (p := ⟨w.heap.size + 1, 0, none⟩) (by dsimp only; omega) (.string s); obtain ⟨cc3, ff3⟩ := j3'.cells1))
        refine ⟨(((KeepA.of_below b2).trans (KeepA.of_below (below_drewN m3))).trans (KeepA.setLow _ (by dsimp only; omega) (fun h => by unfold Box2 at h; dsimp only at h; omega) _)).trans (KeepA.setLow _ (by dsimp only; omega) (fun h => by unfold Box2 at h; dsimp only at h; omega) _), rfl, pre, x, rfl, (((hfr.then_below b2).drewN m3).setCell (.inl (.inl rfl)) _).setCell (.inl (.inr rfl)) _, ?_, j3'.set 0 _, HPRE.out, HFV.out⟩
        rw [HSX.out]
        exact (j2.set 0 _).far (by dsimp only; omega) _
    case done =>
      rintro D V hDV ⟨hfr, hr2, hr3, hpre⟩ hK
      have HNX := Lib.hid (HKP.out.trans (kpF_next hpre))
      have mV : Marks (D :: Ds) V := (mW.fr hfr (fun E hE => by
        rintro (h | h)
        · exact mW.ne_row hE t2 h
        · exact mW.ne_row hE t3 h)).cons (W := W0) (fun E hE => mW.lt hE) hDV hK
      have bV := hfr.under bw0 (fun i hi => by omega)
      have v1 : Row V w.heap.size 87 [.string s0, .string s1, .string s2] := t1.fr hfr (by omega)
      clear hpre
      gi_wp2
      refine ⟨20 - (n + 1), by have := HKK.out; omega, _, _, _, _, _, _, _, _, _, _, _, _, _, D :: Ds, n + 1, r, rfl, rfl, by omega, HNX.out, by have := HR.out; omega, v1, hr2, hr3, bV, mV, fun E hE => ?_⟩
      rcases List.mem_cons.1 hE with rfl | hE
      · omega
      · exact hD E hE
    case stop =>
      rintro D c pre V hDV hp ⟨rfl, ps, x, rfl, hfr, hr2, hr3, h1, h2⟩ hK
      have HW : Hid (fbV (kpX ms) = .tuple #[.string (wS x), .bool true]) := Lib.hid (by rw [HKP.out, kpF_hit hp h1 h2]; rfl)
      have mV : Marks (D :: Ds) V := (mW.fr hfr (fun E hE => by
        rintro (h | h)
        · exact mW.ne_row hE t2 h
        · exact mW.ne_row hE t3 h)).cons (W := W0) (fun E hE => mW.lt hE) hDV hK
      have bV := hfr.under bw0 (fun i hi => by omega)
      clear h1 h2 hp
      gi_wp2
      refine ret_marks (D :: Ds) mV (v := .tuple #[.string (wS x), .bool true]) ?_ ⟨by rw [HW.out], shut_below bV (fun E hE => ?_)⟩
      · exact resC2 Try.results70 rfl rfl (load9 (shut_row mV hr2)) (load4 (shut_row mV hr3))
      · rcases List.mem_cons.1 hE with rfl | hE
        · omega
        · exact hD E hE
  · have g1 : decide ((n : Int) < 11) = false := decide_eq_false (by omega)
    have HW : Hid (fbV (kpX ms) = .tuple #[.string ⟨#[]⟩, .bool false]) := Lib.hid (by
      have : r = 0 := by have := HR.out; omega
      rw [HKP.out, this]; rfl)
    obtain ⟨cc2, ff2⟩ := r2.cells1
    have j3' : Row (W.setCell ⟨w.heap.size + 1, 0, none⟩ (.string ⟨#[]⟩)) (w.heap.size + 1 + 1) 4 [.bool false] := r3.far (by dsimp only; omega) _
    obtain ⟨cc3, ff3⟩ := j3'.cells1
    have j2 : Row ((W.setCell ⟨w.heap.size + 1, 0, none⟩ (.string ⟨#[]⟩)).setCell ⟨w.heap.size + 1 + 1, 0, none⟩ (.bool false)) (w.heap.size + 1) 9 [.string ⟨#[]⟩] := (r2.set 0 (.string ⟨#[]⟩)).far (by dsimp only; omega) _
    have j3 := j3'.set 0 (.bool false)
    have mV : Marks Ds ((W.setCell ⟨w.heap.size + 1, 0, none⟩ (.string ⟨#[]⟩)).setCell ⟨w.heap.size + 1 + 1, 0, none⟩ (.bool false)) := ⟨hm.1, fun D hd => by
      rw [Below.heap_setCell _ _ _ _ (hm.ne_row hd r3), Below.heap_setCell _ _ _ _ (hm.ne_row hd r2)]
      exact hm.2 D hd⟩
    have bV : Below w.heap.size w ((W.setCell ⟨w.heap.size + 1, 0, none⟩ (.string ⟨#[]⟩)).setCell ⟨w.heap.size + 1 + 1, 0, none⟩ (.bool false)) := (b0.setCell (by dsimp only; omega) _).setCell (by dsimp only; omega) _
    gi_wp2
    refine ret_marks Ds mV (v := .tuple #[.string ⟨#[]⟩, .bool false]) ?_ ⟨by rw [HW.out], shut_below bV hD⟩
    exact resC2 Try.results70 rfl rfl (load9 (shut_row mV j2)) (load4 (shut_row mV j3))
end Go.Proofs.Ytoklnpiehbnalaa
