/- MarksSteps walked. -/
import Derived.Test.YtoklnpiehbnalaaCB
namespace Go.Proofs.Ytoklnpiehbnalaa
open Go.ChangeShapes Go.WideShapes Go.ChangeAt Go.RowKit Go.PlainAid
set_option maxHeartbeats 2000000
set_option maxRecDepth 100000
section
variable {H : Type} {enc : TypeId × Value → H} {W : World}
theorem open_sarr2 {r : Reach} {b0 : Nat} {v : Value} {d : DataW H} {p : List MemPlace} (hv : Value.okWide Try.prog W r b0 74 v) (h : DataW.Trod enc Try.prog W 0 (fun _ => true) true 74 v d p) :
    ∃ x y : ByteArray, v = .agg #[.string x, .string y] ∧ x.size ≤ maxLen ∧ y.size ≤ maxLen := by
  have hc : Try.prog.cellsOf 74 = 2 := by kernel_rfl
  have hc9 : Try.prog.cellsOf 9 = 1 := by kernel_rfl
  obtain ⟨cs, rfl, hs⟩ : ∃ cs, v = .agg cs ∧ cs.size = 2 := by
    simp only [Value.okWide, Try.underlying74] at hv
    obtain ⟨cs, h1, h2, _⟩ := hv
    exact ⟨cs, h1, by rw [h2, hc]⟩
  obtain ⟨fuel, hf⟩ := h
  obtain ⟨xs, k, _, _, _, hxl, hat⟩ := DataW.trod_array Try.underlying74 hf
  obtain ⟨l⟩ := cs
  match l, hs with
  | [c0, c1], _ =>
    have h0 := hat 0 (by omega)
    have h1 := hat 1 (by omega)
    rw [hc9, List.getElem?_eq_getElem (by omega)] at h0 h1
    obtain ⟨y0, e0, _, z0⟩ := DataW.trod_string Try.underlying9 h0
    obtain ⟨y1, e1, _, z1⟩ := DataW.trod_string Try.underlying9 h1
    simp [Value.cells] at e0 e1
    exact ⟨y0, y1, by rw [e0, e1], z0, z1⟩
end
theorem marksSteps_a (A : Option Addr) (n c : Nat) (s0 s1 x y ix iy ixy pw q : ByteArray) (z : Int) (k : Nat) (R : List ByteArray) (w : World) (hR : R.length = 3) (hk : k < 3) (hxy : x.size + y.size ≤ 1000) (hxy2 : ix.size + iy.size ≤ 100000) (hpl : pw.size ≤ 2000) (hpw : 120 < pw.size)
    (H0 : Hid (∀ V, Below w.heap.size w V → Calls Try.prog 52 #[.slice A n c, .int .i64 3] V fun e w' => ∃ v, e = .returned v ∧ w'.ownsRow V.heap.size 9 1 v 3 (strv R) ∧ Below V.heap.size V w'))
    (H1 : Hid (∀ V, Calls Try.prog 48 #[.string s0, .int .i64 40, .int .i64 3] V fun e w' => e = .returned (.string x) ∧ Below V.heap.size V w'))
    (H2 : Hid (∀ V, Calls Try.prog 48 #[.string s1, .int .i64 40, .int .i64 3] V fun e w' => e = .returned (.string y) ∧ Below V.heap.size V w'))
    (H3 : Hid (∀ V A c, StrsAt V A R → Calls Try.prog 40 #[.slice A 3 c, .string x] V fun e w' => e = .returned (.tuple #[.string ix, .int .i64 0]) ∧ Below V.heap.size V w'))
    (H4 : Hid (∀ V A c, StrsAt V A R → Calls Try.prog 40 #[.slice A 3 c, .string y] V fun e w' => e = .returned (.tuple #[.string iy, .int .i64 0]) ∧ Below V.heap.size V w'))
    (H5 : Hid (∀ V A c, StrsAt V A R → Calls Try.prog 40 #[.slice A 3 c, .string (x ++ y)] V fun e w' => e = .returned (.tuple #[.string ixy, .int .i64 0]) ∧ Below V.heap.size V w'))
    (he : ix ++ iy = ixy)
    (H6 : Hid (∀ V, Calls Try.prog 50 #[.int .i64 z, .int .i64 3] V fun e w' => e = .returned (.int .i64 k) ∧ V = w'))
    (H7 : Hid (∀ V A c, StrsAt V A R → Calls Try.prog 46 #[.slice A 3 c, .int .u8 98, .int .i64 k] V fun e w' => e = .returned (.tuple #[.string pw, .int .i64 0]) ∧ Below V.heap.size V w'))
    (H8 : Hid (∀ V A c, StrsAt V A R → Calls Try.prog 46 #[.slice A 3 c, .int .u8 98, .int .i64 ((k : Int) + 1)] V fun e w' => e = .returned (.tuple #[.string q, .int .i64 0]) ∧ Below V.heap.size V w')) :
    Calls Try.prog 17 #[.slice A n c, .agg #[.string s0, .string s1], .int .i64 z] w fun e w' => e = .returned (.bool true) ∧ Below w.heap.size w w' := by
  have HAW := Lib.hid awake_any
  have b0 := Below.refl w.heap.size w
  have HR := Lib.hid hR
  have HBE : Hid (∀ s : ByteArray, (s.toList == s.toList) = true) := Lib.hid (fun s => beq_self_eq_true _)
  have hbe1 := HBE.out ixy
  skip
  have g1 : decide ((120 : Int) < (pw.size : Int)) = true := decide_eq_true (by omega)
  have r0 : Row (w.alloc (.cells #[.string s0, .string s1] 74)) w.heap.size 74 [.string s0, .string s1] := row_new rfl
  replace b0 := b0.alloc (Nat.le_refl _) (.cells #[.string s0, .string s1] 74)
  clear hR hpw
  go_enter Try.func17, Try.ntmps17
  go_wp2_with (go_at_call 52; (with_reducible refine (H0.out _ b0).mono ?_); rintro e w2 ⟨v1, rfl, o1, b1⟩; replace r0 := r0.below b1; replace b0 := b0.trans (b1.mono b0.size); obtain ⟨A1, c1, rfl, -, -, st⟩ := own_strs o1; rw [HR.out]; clear o1)
  have k0 : ∀ u : After w2, u.v.cell? ⟨w.heap.size, 0, none⟩ = some (.string s0) := fun u => After.cell (r0.cell 0) u
  have k1 : ∀ u : After w2, u.v.cell? ⟨w.heap.size, 1, none⟩ = some (.string s1) := fun u => After.cell (r0.cell 1) u
  clear r0
  refine wp_region_class_all (C := fun w' => ∃ u : After _, w' = u.v) (by kernel_rfl) (by kernel_rfl) (isAfter_start _) ?_
  try simp only [Act.put]
  repeat (go_big_quiet_step ((first | (with_reducible refine (H1.out _).mono ?_; rintro e w8 ⟨rfl, b8⟩; exact ⟨rfl, After.done _ b8⟩) | (with_reducible refine (H2.out _).mono ?_; rintro e w8 ⟨rfl, b8⟩; exact ⟨rfl, After.done _ b8⟩))))
  refine wpQuiet_nil ?_
  rintro _ ⟨ua, rfl⟩
  have st3 := st.below ua.h
  have b03 := b0.trans (ua.h.mono b0.size)
  clear k0 k1 st b0 H0 H1 H2
  generalize ua.v = W3 at *
  go_wp2_with (first
    | (go_at_call 40; (first | (with_reducible refine (H3.out _ _ _ st3).mono ?_) | (with_reducible refine (H4.out _ _ _ st3).mono ?_) | (with_reducible refine (H5.out _ _ _ st3).mono ?_)); rintro e w4 ⟨rfl, b4⟩; replace st3 := st3.below b4; replace b03 := b03.trans (b4.mono b03.size))
    | (go_at_call 50; (with_reducible refine (H6.out _).mono ?_); rintro e w5 ⟨rfl, rfl⟩)
    | (go_at_call 46; (first | (with_reducible refine (H7.out _ _ _ st3).mono ?_) | (with_reducible refine (H8.out _ _ _ st3).mono ?_)); rintro e w6 ⟨rfl, b6⟩; replace st3 := st3.below b6; replace b03 := b03.trans (b6.mono b03.size))
    | (go_at_call 24; (with_reducible refine (HAW.out _).mono ?_); rintro e w7 ⟨rfl, b7⟩; replace b03 := b03.trans (b7.mono b03.size)))
  go_ret
  exact ⟨rfl, b03⟩
theorem marksSteps_b (A : Option Addr) (n c : Nat) (s0 s1 x y ix iy ixy pw q : ByteArray) (z : Int) (k : Nat) (R : List ByteArray) (w : World) (hR : R.length = 3) (hk : k < 3) (hxy : x.size + y.size ≤ 1000) (hxy2 : ix.size + iy.size ≤ 100000) (hpl : pw.size ≤ 2000) (hpw : pw.size ≤ 120)
    (H0 : Hid (∀ V, Below w.heap.size w V → Calls Try.prog 52 #[.slice A n c, .int .i64 3] V fun e w' => ∃ v, e = .returned v ∧ w'.ownsRow V.heap.size 9 1 v 3 (strv R) ∧ Below V.heap.size V w'))
    (H1 : Hid (∀ V, Calls Try.prog 48 #[.string s0, .int .i64 40, .int .i64 3] V fun e w' => e = .returned (.string x) ∧ Below V.heap.size V w'))
    (H2 : Hid (∀ V, Calls Try.prog 48 #[.string s1, .int .i64 40, .int .i64 3] V fun e w' => e = .returned (.string y) ∧ Below V.heap.size V w'))
    (H3 : Hid (∀ V A c, StrsAt V A R → Calls Try.prog 40 #[.slice A 3 c, .string x] V fun e w' => e = .returned (.tuple #[.string ix, .int .i64 0]) ∧ Below V.heap.size V w'))
    (H4 : Hid (∀ V A c, StrsAt V A R → Calls Try.prog 40 #[.slice A 3 c, .string y] V fun e w' => e = .returned (.tuple #[.string iy, .int .i64 0]) ∧ Below V.heap.size V w'))
    (H5 : Hid (∀ V A c, StrsAt V A R → Calls Try.prog 40 #[.slice A 3 c, .string (x ++ y)] V fun e w' => e = .returned (.tuple #[.string ixy, .int .i64 0]) ∧ Below V.heap.size V w'))
    (he : ix ++ iy = ixy)
    (H6 : Hid (∀ V, Calls Try.prog 50 #[.int .i64 z, .int .i64 3] V fun e w' => e = .returned (.int .i64 k) ∧ V = w'))
    (H7 : Hid (∀ V A c, StrsAt V A R → Calls Try.prog 46 #[.slice A 3 c, .int .u8 98, .int .i64 k] V fun e w' => e = .returned (.tuple #[.string pw, .int .i64 0]) ∧ Below V.heap.size V w'))
    (H8 : Hid (∀ V A c, StrsAt V A R → Calls Try.prog 46 #[.slice A 3 c, .int .u8 98, .int .i64 ((k : Int) + 1)] V fun e w' => e = .returned (.tuple #[.string q, .int .i64 0]) ∧ Below V.heap.size V w'))
    (H9 : Hid (∀ V A c, StrsAt V A R → Calls Try.prog 40 #[.slice A 3 c, .string pw] V fun e w' => e = .returned (.tuple #[.string q, .int .i64 0]) ∧ Below V.heap.size V w')) :
    Calls Try.prog 17 #[.slice A n c, .agg #[.string s0, .string s1], .int .i64 z] w fun e w' => e = .returned (.bool true) ∧ Below w.heap.size w w' := by
  have HAW := Lib.hid awake_any
  have b0 := Below.refl w.heap.size w
  have HR := Lib.hid hR
  have HBE : Hid (∀ s : ByteArray, (s.toList == s.toList) = true) := Lib.hid (fun s => beq_self_eq_true _)
  have hbe1 := HBE.out ixy
  have hbe2 := HBE.out q
  have g1 : decide ((120 : Int) < (pw.size : Int)) = false := decide_eq_false (by omega)
  have r0 : Row (w.alloc (.cells #[.string s0, .string s1] 74)) w.heap.size 74 [.string s0, .string s1] := row_new rfl
  replace b0 := b0.alloc (Nat.le_refl _) (.cells #[.string s0, .string s1] 74)
  clear hR hpw
  go_enter Try.func17, Try.ntmps17
  go_wp2_with (go_at_call 52; (with_reducible refine (H0.out _ b0).mono ?_); rintro e w2 ⟨v1, rfl, o1, b1⟩; replace r0 := r0.below b1; replace b0 := b0.trans (b1.mono b0.size); obtain ⟨A1, c1, rfl, -, -, st⟩ := own_strs o1; rw [HR.out]; clear o1)
  have k0 : ∀ u : After w2, u.v.cell? ⟨w.heap.size, 0, none⟩ = some (.string s0) := fun u => After.cell (r0.cell 0) u
  have k1 : ∀ u : After w2, u.v.cell? ⟨w.heap.size, 1, none⟩ = some (.string s1) := fun u => After.cell (r0.cell 1) u
  clear r0
  refine wp_region_class_all (C := fun w' => ∃ u : After _, w' = u.v) (by kernel_rfl) (by kernel_rfl) (isAfter_start _) ?_
  try simp only [Act.put]
  repeat (go_big_quiet_step ((first | (with_reducible refine (H1.out _).mono ?_; rintro e w8 ⟨rfl, b8⟩; exact ⟨rfl, After.done _ b8⟩) | (with_reducible refine (H2.out _).mono ?_; rintro e w8 ⟨rfl, b8⟩; exact ⟨rfl, After.done _ b8⟩))))
  refine wpQuiet_nil ?_
  rintro _ ⟨ua, rfl⟩
  have st3 := st.below ua.h
  have b03 := b0.trans (ua.h.mono b0.size)
  clear k0 k1 st b0 H0 H1 H2
  generalize ua.v = W3 at *
  go_wp2_with (first
    | (go_at_call 40; (first | (with_reducible refine (H3.out _ _ _ st3).mono ?_) | (with_reducible refine (H4.out _ _ _ st3).mono ?_) | (with_reducible refine (H5.out _ _ _ st3).mono ?_) | (with_reducible refine (H9.out _ _ _ st3).mono ?_)); rintro e w4 ⟨rfl, b4⟩; replace st3 := st3.below b4; replace b03 := b03.trans (b4.mono b03.size))
    | (go_at_call 50; (with_reducible refine (H6.out _).mono ?_); rintro e w5 ⟨rfl, rfl⟩)
    | (go_at_call 46; (first | (with_reducible refine (H7.out _ _ _ st3).mono ?_) | (with_reducible refine (H8.out _ _ _ st3).mono ?_)); rintro e w6 ⟨rfl, b6⟩; replace st3 := st3.below b6; replace b03 := b03.trans (b6.mono b03.size))
    | (go_at_call 24; (with_reducible refine (HAW.out _).mono ?_); rintro e w7 ⟨rfl, b7⟩; replace b03 := b03.trans (b7.mono b03.size)))
  go_ret
  exact ⟨rfl, b03⟩
theorem gMs_abc (ss : List ByteArray) : IsM3 (gMs ss) := { gMs_map ss with abc := fun _m hm => (gMs_mem hm).1 }
theorem pwF_snoc (ms : List (List Nat)) : ∀ r x P, pwF ms r x = some P → (imW ms P).length ≤ 2000 → pwF ms (r + 1) x = some (imW ms P)
  | 0, x, P, h, hl => by
    have e : x = P := by simpa [pwF] using h
    subst e
    show (if 2000 < (imW ms x).length then none else pwF ms 0 (imW ms x)) = _
    rw [if_neg (by omega)]; rfl
  | r + 1, x, P, h, hl => by
    have h' : (if 2000 < (imW ms x).length then none else pwF ms r (imW ms x)) = some P := h
    show (if 2000 < (imW ms x).length then none else pwF ms (r + 1) (imW ms x)) = _
    by_cases h2 : 2000 < (imW ms x).length
    · rw [if_pos h2] at h'; cases h'
    · rw [if_neg h2] at h' ⊢
      exact pwF_snoc ms r _ P h' hl
theorem pwF_small {ms : List (List Nat)} (hm : IsM3 ms) : ∀ r x, (∀ b, b ∈ x → b < 3) → x.length * 12 ^ r ≤ 2000 → ∃ P, pwF ms r x = some P ∧ (∀ b, b ∈ P → b < 3) ∧ P.length ≤ x.length * 12 ^ r
  | 0, x, hx, _ => ⟨x, rfl, hx, by simp⟩
  | r + 1, x, hx, hl => by
    have h1 := imW_len hm.toIsMp hx
    have e : x.length * 12 ^ (r + 1) = 12 * x.length * 12 ^ r := by rw [Nat.pow_succ, ← Nat.mul_assoc, Nat.mul_right_comm, Nat.mul_comm x.length 12]
    have h2 := Nat.mul_le_mul_right (12 ^ r) h1
    have h3 : (imW ms x).length ≤ (imW ms x).length * 12 ^ r := Nat.le_mul_of_pos_right _ (Nat.pow_pos (by decide))
    obtain ⟨P, p1, p2, p3⟩ := pwF_small hm r (imW ms x) (imW_abc hm hx) (by omega)
    refine ⟨P, ?_, p2, by omega⟩
    show (if 2000 < (imW ms x).length then none else pwF ms r (imW ms x)) = _
    rw [if_neg (by omega)]; exact p1
theorem marksSteps_any (A : Option Addr) (c : Nat) (ss : List ByteArray) (s0 s1 : ByteArray) (z : Int) (w : World) (hx : ss.length ≤ c) (hc : c ≤ maxLen) (hz : ∀ i, (gets ss i).size ≤ maxLen) (ha : StrsAt w A ss) (hs0 : s0.size ≤ maxLen) (hs1 : s1.size ≤ maxLen) :
    Calls Try.prog 17 #[.slice A ss.length c, .agg #[.string s0, .string s1], .int .i64 z] w fun e w' => e = .returned (.bool true) ∧ Below w.heap.size w w' := by
  unfold maxLen at hc hz hs0 hs1
  have hk := modI_lt z (n := 3) (by decide)
  have H6 : Hid (∀ V, Calls Try.prog 50 #[.int .i64 z, .int .i64 3] V fun e w' => e = .returned (.int .i64 (modI z 3)) ∧ V = w') := Lib.hid (fun V => mod_any z 3 V (by decide) (by decide))
  generalize modI z 3 = k at *
  obtain ⟨X, hX⟩ : ∃ X, tmW 3 40 s0 = X := ⟨_, rfl⟩
  have lx := tmW_len 3 40 s0
  have kx : ∀ b, b ∈ X → b < 3 := hX ▸ tmW_ok (by decide) 40 s0
  rw [hX] at lx
  obtain ⟨Y, hY⟩ : ∃ Y, tmW 3 40 s1 = Y := ⟨_, rfl⟩
  have ly := tmW_len 3 40 s1
  have ky : ∀ b, b ∈ Y → b < 3 := hY ▸ tmW_ok (by decide) 40 s1
  rw [hY] at ly
  have H1 : Hid (∀ V, Calls Try.prog 48 #[.string s0, .int .i64 40, .int .i64 3] V fun e w' => e = .returned (.string (wS X)) ∧ Below V.heap.size V w') := Lib.hid (fun V => by rw [← hX]; exact tame_any 3 40 s0 V (by decide) (by decide) (by omega) (by decide))
  have H2 : Hid (∀ V, Calls Try.prog 48 #[.string s1, .int .i64 40, .int .i64 3] V fun e w' => e = .returned (.string (wS Y)) ∧ Below V.heap.size V w') := Lib.hid (fun V => by rw [← hY]; exact tame_any 3 40 s1 V (by decide) (by decide) (by omega) (by decide))
  have hm := gMs_abc ss
  have hm1 : IsMp (gMs ss) := hm.toIsMp
  have H0 := Lib.hid (fun V (hV : Below w.heap.size w V) => maps_any A c ss V (by omega) hz (ha.below hV))
  have hl3 : ((gMs ss).map wS).length = 3 := by rw [List.length_map]; exact hm1.len
  generalize gMs ss = ms at *
  have kxy : ∀ b, b ∈ X ++ Y → b < 3 := fun b hb => by
    rcases List.mem_append.1 hb with h | h
    · exact kx b h
    · exact ky b h
  have H5 : Hid (∀ V A c, StrsAt V A (ms.map wS) → Calls Try.prog 40 #[.slice A 3 c, .string (wS X ++ wS Y)] V fun e w' => e = .returned (.tuple #[.string (wS (imW ms (X ++ Y))), .int .i64 0]) ∧ Below V.heap.size V w') := Lib.hid (fun V A c h => by rw [wS_app]; exact Image_yes A c ms (X ++ Y) V hm1 h kxy (by simp; omega))
  have ix := imW_len hm1 kx
  have iy := imW_len hm1 ky
  have hpow : 12 ^ k ≤ 144 := by
    obtain rfl | rfl | rfl : k = 0 ∨ k = 1 ∨ k = 2 := by omega
    · decide
    · decide
    · decide
  obtain ⟨P, q1, q2, q3⟩ := pwF_small hm k [1] (fun b hb => by simp at hb; omega) (by simp; omega)
  have q3' : P.length ≤ 144 := by simp at q3; omega
  have iP := imW_len hm1 q2
  have q4 := pwF_snoc ms k [1] P q1 (by omega)
  have H7 : Hid (∀ V A c, StrsAt V A (ms.map wS) → Calls Try.prog 46 #[.slice A 3 c, .int .u8 98, .int .i64 k] V fun e w' => e = .returned (.tuple #[.string (wS P), .int .i64 0]) ∧ Below V.heap.size V w') := Lib.hid (fun V A c h => by
    have := Power_yes A c ms 1 k V hm h (by decide) (by omega)
    rw [q1] at this; exact this)
  have H8 : Hid (∀ V A c, StrsAt V A (ms.map wS) → Calls Try.prog 46 #[.slice A 3 c, .int .u8 98, .int .i64 ((k : Int) + 1)] V fun e w' => e = .returned (.tuple #[.string (wS (imW ms P)), .int .i64 0]) ∧ Below V.heap.size V w') := Lib.hid (fun V A c h => by
    have := Power_yes A c ms 1 (k + 1) V hm h (by decide) (by omega)
    rw [q4] at this; exact this)
  have he : wS (imW ms X) ++ wS (imW ms Y) = wS (imW ms (X ++ Y)) := by rw [wS_app]; congr 1; unfold imW; rw [List.flatMap_append]
  rcases Nat.lt_or_ge 120 P.length with hp | hp
  · exact marksSteps_a A ss.length c s0 s1 (wS X) (wS Y) (wS (imW ms X)) (wS (imW ms Y)) (wS (imW ms (X ++ Y))) (wS P) (wS (imW ms P)) z k (ms.map wS) w hl3 hk (by rw [wS_len, wS_len]; omega) (by rw [wS_len, wS_len]; omega) (by rw [wS_len]; omega) (by rw [wS_len]; exact hp) H0 H1 H2
      (Lib.hid (fun V A c h => Image_yes A c ms X V hm1 h kx (by omega))) (Lib.hid (fun V A c h => Image_yes A c ms Y V hm1 h ky (by omega))) H5 he H6 H7 H8
  · exact marksSteps_b A ss.length c s0 s1 (wS X) (wS Y) (wS (imW ms X)) (wS (imW ms Y)) (wS (imW ms (X ++ Y))) (wS P) (wS (imW ms P)) z k (ms.map wS) w hl3 hk (by rw [wS_len, wS_len]; omega) (by rw [wS_len, wS_len]; omega) (by rw [wS_len]; omega) (by rw [wS_len]; exact hp) H0 H1 H2
      (Lib.hid (fun V A c h => Image_yes A c ms X V hm1 h kx (by omega))) (Lib.hid (fun V A c h => Image_yes A c ms Y V hm1 h ky (by omega))) H5 he H6 H7 H8 (Lib.hid (fun V A c h => Image_yes A c ms P V hm1 h q2 (by omega)))
end Go.Proofs.Ytoklnpiehbnalaa
