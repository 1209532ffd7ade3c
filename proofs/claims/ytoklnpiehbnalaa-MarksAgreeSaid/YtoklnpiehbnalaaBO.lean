/- MarksAgree walked. -/
import Derived.Test.YtoklnpiehbnalaaME
import Derived.Test.YtoklnpiehbnalaaBL
namespace Go.Proofs.Ytoklnpiehbnalaa
open Go.RowKit Go.PlainAid
set_option maxHeartbeats 2000000
set_option maxRecDepth 100000
theorem rev_take {x : List Nat} {j : Nat} (h : j < x.length) : (x.take (j + 1)).reverse = sub x j 1 ++ (x.take j).reverse := by
  have e : x.take (j + 1) = x.take j ++ sub x j 1 := by
    unfold sub
    rw [List.take_add]
  rw [e, List.reverse_append]
  congr 1
  have : (sub x j 1).length = 1 := by rw [sub_len]; omega
  match hs : sub x j 1, this with
  | [a], _ => rfl
theorem back_any (x : List Nat) (w : World) (hl : x.length ≤ 1000) :
    Calls Try.prog 49 #[.string (wS x)] w fun e w' => e = .returned (.string (wS x.reverse)) ∧ w = w' := by
  have hsz := wS_len x
  have HST := Lib.hid (fun j (h : j < x.length) => show (wS x).extract j (j + 1) ++ wS (x.take j).reverse = wS (x.take (j + 1)).reverse by rw [rev_take h, ← wS_app, wS_extract, show j + 1 - j = 1 by omega])
  have HEND : Hid ((x.take x.length).reverse = x.reverse) := Lib.hid (by rw [List.take_length])
  generalize hn : x.length = n at *
  go_enter Try.func49, Try.ntmps49
  go_wp2
  go_loopw [3, 4] (fun v i wr => ∃ j : Nat, i = .int .i64 j ∧ j ≤ n ∧ v = .string (wS (x.take j).reverse) ∧ wr = w) (fun _ i _ => n - (intOf i).toNat)
  case atStart => exact ⟨0, rfl, by omega, rfl, by first | rfl | trivial⟩
  case round =>
    obtain ⟨j, rfl, hj, rfl, rfl⟩ := hrel
    by_cases hlt : j < n
    · have g1 : decide (j < n) = true := decide_eq_true hlt
      have HS := HST.out j hlt
      have hm : min (j + 1) n - j + (wS (x.take j).reverse).size ≤ 1000 := by rw [wS_len, List.length_reverse, List.length_take]; omega
      go_wp2
      · exact ⟨⟨j + 1, by go_num, by omega, rfl, by first | rfl | trivial⟩, by simp [intOf]; omega⟩
    · obtain rfl : j = n := by omega
      go_wp2
      go_ret
      exact ⟨by rw [← HEND.out]; rfl, rfl⟩
theorem wpList_load_row_w {P : Program} {ops : Array Oper} {rest : List Oper} {o : Oper} {a : Act} {w : World} {Q : Exit → Act → World → Prop} (hw : Region.wanted o (yielded ops a.tmps) = true) (ty : TypeId) (x : Operand) (ho : o.op = .load ty x)
    (g : Nat) (hx : a.eval x = .pointer (some ⟨g, 0, none⟩)) (t : TypeId) (cs : Array Value) (fr : Nat × Nat) (d : TypeDesc) (hg : w.heap[g]? = some (.cells cs t fr))
    (hu : P.underlying ty = some d) (hd : (match d with | .struct _ | .array _ _ => true | _ => false) = true) (hi : (P.info? ty).map (·.size) = some cs.size)
    (h : wpList P ops Q rest (a.put o.dst (.agg cs)) w) : wpList P ops Q (o :: rest) a w := by
  unfold wpList
  rw [if_pos hw]
  exact .inl (wp_load_row ty x ho g hx t cs fr d hg hu hd hi h)
theorem marksAgree_none (s : ByteArray) (x y : Int) (w : World)
    (H0 : Hid (∀ V, Calls Try.prog 48 #[.string s, .int .i64 60, .int .i64 4] V fun e w' => e = .returned (.string ⟨#[]⟩) ∧ Below V.heap.size V w')) :
    Calls Try.prog 9 #[.string s, .agg #[.int .i64 x, .int .i64 y]] w fun e w' => e = .returned (.bool true) ∧ Below w.heap.size w w' := by
  have HAW := Lib.hid awake_any
  have HNE := Lib.hid nil_empty
  have b0 := Below.refl w.heap.size w
  replace b0 := b0.alloc (Nat.le_refl _) (.cells #[.int .i64 x, .int .i64 y] 66)
  go_enter Try.func9, Try.ntmps9
  go_wp2_with (first
    | (go_at_call 48; (with_reducible refine (H0.out _).mono ?_); rintro e w1 ⟨rfl, b1⟩; replace b0 := b0.trans (b1.mono b0.size))
    | (go_at_call 24; (with_reducible refine (HAW.out _).mono ?_); rintro e w2 ⟨rfl, b2⟩; replace b0 := b0.trans (b2.mono b0.size)))
  go_ret
  exact ⟨rfl, b0⟩
theorem marksAgree_sq (s t u v z : ByteArray) (x y : Int) (i j lo hi A N : Nat) (n d a1 p1 c p3 a4 p4 a5 p5 e5 : Int) (w : World)
    (H0 : Hid (∀ V, Calls Try.prog 48 #[.string s, .int .i64 60, .int .i64 4] V fun e w' => e = .returned (.string t) ∧ Below V.heap.size V w'))
    (hB : t.toList.isEmpty = false) (hl : t.size ≤ 120)
    (H1 : Hid (∀ V, Calls Try.prog 20 #[.string t] V fun e w' => e = .returned (.tuple #[.int .i64 a1, .int .i64 p1, .int .i64 0]) ∧ Below V.heap.size V w'))
    (H2 : Hid (∀ V, Calls Try.prog 30 #[.string t] V fun e w' => e = .returned (.tuple #[.agg #[.int .i64 n, .int .i64 d], .int .i64 A, .int .i64 N, .int .i64 0]) ∧ Below V.heap.size V w'))
    (H3 : Hid (∀ V, Calls Try.prog 21 #[.string t] V fun e w' => e = .returned (.tuple #[.int .i64 c, .int .i64 p3, .int .i64 0]) ∧ Below V.heap.size V w'))
    (H4 : Hid (∀ V, Calls Try.prog 49 #[.string t] V fun e w' => e = .returned (.string u) ∧ V = w'))
    (H5 : Hid (∀ V, Calls Try.prog 20 #[.string u] V fun e w' => e = .returned (.tuple #[.int .i64 a4, .int .i64 p4, .int .i64 0]) ∧ Below V.heap.size V w'))
    (g1 : 1 ≤ d) (g2 : d ≤ 120) (g3 : 2 * d ≤ n) (g4 : c ≤ a1) (h1 : 1 ≤ N) (h2 : A + N ≤ t.size) (hv : t.extract A (A + N) = v)
    (H6 : Hid (∀ V, Calls Try.prog 29 #[.string v] V fun e w' => e = .returned (.tuple #[.agg #[.int .i64 n, .int .i64 d], .int .i64 0]) ∧ Below V.heap.size V w'))
    (H7 : Hid (∀ V, Calls Try.prog 50 #[.int .i64 x, .int .i64 t.size] V fun e w' => e = .returned (.int .i64 i) ∧ V = w'))
    (H8 : Hid (∀ V, Calls Try.prog 50 #[.int .i64 y, .int .i64 t.size] V fun e w' => e = .returned (.int .i64 j) ∧ V = w'))
    (hlo : min (i : Int) (j : Int) = lo) (hhi : max (i : Int) (j : Int) = hi) (h3 : lo ≤ hi) (h4 : hi < t.size) (hz : t.extract lo hi = z)
    (H9 : Hid (∀ V, Calls Try.prog 20 #[.string z] V fun e w' => e = .returned (.tuple #[.int .i64 a5, .int .i64 p5, .int .i64 e5]) ∧ Below V.heap.size V w')) :
    Calls Try.prog 9 #[.string s, .agg #[.int .i64 x, .int .i64 y]] w fun e w' => e = .returned (.bool true) ∧ Below w.heap.size w w' := by
  have HAW := Lib.hid awake_any
  have HV := Lib.hid hv
  have HZ := Lib.hid hz
  have hlo2 := Lib.hid hlo
  have hhi2 := Lib.hid hhi
  clear hlo hhi hv hz
  have b0 := Below.refl w.heap.size w
  have r0 : Row (w.alloc (.cells #[.int .i64 x, .int .i64 y] 66)) w.heap.size 66 [.int .i64 x, .int .i64 y] := row_new rfl
  replace b0 := b0.alloc (Nat.le_refl _) (.cells #[.int .i64 x, .int .i64 y] 66)
  have hi36 : (Try.prog.info? 36).map (·.size) = some ([.int .i64 n, .int .i64 d] : List Value).length := info36
  go_enter Try.func9, Try.ntmps9
  go_wp2_with (first
    | (rw [HV.out])
    | (go_at_call 48; (with_reducible refine (H0.out _).mono ?_); rintro e w1 ⟨rfl, b1⟩; replace r0 := r0.below b1; replace b0 := b0.trans (b1.mono b0.size))
    | (go_at_call 20; (with_reducible refine (H1.out _).mono ?_); rintro e w2 ⟨rfl, b1⟩; replace r0 := r0.below b1; replace b0 := b0.trans (b1.mono b0.size))
    | (go_at_call 30; (with_reducible refine (H2.out _).mono ?_); rintro e w3 ⟨rfl, b4⟩; replace b0 := (b0.trans (b4.mono b0.size)).alloc (by have := b0.size; have := b4.size; omega) (.cells #[.int .i64 n, .int .i64 d] 36); replace r0 := (r0.below b4).alloc (.cells #[.int .i64 n, .int .i64 d] 36); have r4 : Row (w3.alloc (.cells #[.int .i64 n, .int .i64 d] 36)) w3.heap.size 36 [.int .i64 n, .int .i64 d] := row_new rfl)
    | (go_at_call 21; (with_reducible refine (H3.out _).mono ?_); rintro e w4 ⟨rfl, b1⟩; replace r0 := r0.below b1; replace r4 := r4.below b1; replace b0 := b0.trans (b1.mono b0.size))
    | (go_at_call 49; (with_reducible refine (H4.out _).mono ?_); rintro e w5 ⟨rfl, rfl⟩)
    | (go_at_call 20; (with_reducible refine (H5.out _).mono ?_); rintro e w6 ⟨rfl, b1⟩; replace r0 := r0.below b1; replace r4 := r4.below b1; replace b0 := b0.trans (b1.mono b0.size); have c40 := r4.cell 0; have c41 := r4.cell 1)
    | (go_at_call 29; (with_reducible refine (H6.out _).mono ?_); rintro e w7 ⟨rfl, b4⟩; replace b0 := (b0.trans (b4.mono b0.size)).alloc (by have := b0.size; have := b4.size; omega) (.cells #[.int .i64 n, .int .i64 d] 36); replace r0 := (r0.below b4).alloc (.cells #[.int .i64 n, .int .i64 d] 36); replace r4 := (r4.below b4).alloc (.cells #[.int .i64 n, .int .i64 d] 36); have r6 : Row (w7.alloc (.cells #[.int .i64 n, .int .i64 d] 36)) w7.heap.size 36 [.int .i64 n, .int .i64 d] := row_new rfl; have k0 := r0.cell 0; have k1 := r0.cell 1)
    | ((with_reducible refine (?_ : wpList _ _ _ (Oper.mk (some 117) _ _ _ _ _ :: _) _ _)); refine wpList_load_row_w (by rfl) 36 (.tmp 19) rfl w7.heap.size rfl 36 [.int .i64 n, .int .i64 d].toArray (0, 0) _ (row_heap r6) Try.underlying36 rfl hi36 ?_)
    | ((with_reducible refine (?_ : wpList _ _ _ (Oper.mk (some 118) _ _ _ _ _ :: _) _ _)); refine wpList_load_row_w (by rfl) 36 (.tmp 9) rfl w3.heap.size rfl 36 [.int .i64 n, .int .i64 d].toArray (0, 0) _ (row_heap r4) Try.underlying36 rfl hi36 ?_))
  clear H0 H1 H2 H3 H4 H5 H6
  generalize World.alloc w7 _ = W at *
  go_region_held3 (fun w' => w'.cell? ⟨w.heap.size, 0, none⟩ = some (.int .i64 x) ∧ w'.cell? ⟨w.heap.size, 1, none⟩ = some (.int .i64 y)) (first | assumption | exact ⟨k0, k1⟩)
    (first
      | (go_at_call 50; (with_reducible refine (H7.out _).mono ?_); rintro e w2 ⟨rfl, rfl⟩)
      | (go_at_call 50; (with_reducible refine (H8.out _).mono ?_); rintro e w2 ⟨rfl, rfl⟩))
  replace b0 := b0.drew
  clear r4 r6 c40 c41 k0 k1 r0
  go_wp2_with (first
    | (rw [hlo2.out]) | (rw [hhi2.out]) | (rw [HZ.out])
    | (go_at_call 20; (with_reducible refine (H9.out _).mono ?_); rintro e w8 ⟨rfl, b3⟩; replace b0 := b0.trans (b3.mono b0.size))
    | (go_at_call 24; (with_reducible refine (HAW.out _).mono ?_); rintro e w9 ⟨rfl, b5⟩; replace b0 := b0.trans (b5.mono b0.size)))
  all_goals (go_ret; exact ⟨rfl, b0⟩)
theorem marksAgree_no (s t u v z : ByteArray) (x y : Int) (i j lo hi A N : Nat) (n d a1 p1 c p3 e3 a4 p4 a5 p5 : Int) (w : World)
    (H0 : Hid (∀ V, Calls Try.prog 48 #[.string s, .int .i64 60, .int .i64 4] V fun e w' => e = .returned (.string t) ∧ Below V.heap.size V w'))
    (hB : t.toList.isEmpty = false) (hl : t.size ≤ 120)
    (H1 : Hid (∀ V, Calls Try.prog 20 #[.string t] V fun e w' => e = .returned (.tuple #[.int .i64 a1, .int .i64 p1, .int .i64 6]) ∧ Below V.heap.size V w'))
    (H2 : Hid (∀ V, Calls Try.prog 30 #[.string t] V fun e w' => e = .returned (.tuple #[.agg #[.int .i64 n, .int .i64 d], .int .i64 A, .int .i64 N, .int .i64 0]) ∧ Below V.heap.size V w'))
    (H3 : Hid (∀ V, Calls Try.prog 21 #[.string t] V fun e w' => e = .returned (.tuple #[.int .i64 c, .int .i64 p3, .int .i64 e3]) ∧ Below V.heap.size V w'))
    (H4 : Hid (∀ V, Calls Try.prog 49 #[.string t] V fun e w' => e = .returned (.string u) ∧ V = w'))
    (H5 : Hid (∀ V, Calls Try.prog 20 #[.string u] V fun e w' => e = .returned (.tuple #[.int .i64 a4, .int .i64 p4, .int .i64 6]) ∧ Below V.heap.size V w'))
    (g1 : 1 ≤ d) (g2 : d ≤ 120) (g3 : n < 2 * d) (h1 : 1 ≤ N) (h2 : A + N ≤ t.size) (hv : t.extract A (A + N) = v)
    (H6 : Hid (∀ V, Calls Try.prog 29 #[.string v] V fun e w' => e = .returned (.tuple #[.agg #[.int .i64 n, .int .i64 d], .int .i64 0]) ∧ Below V.heap.size V w'))
    (H7 : Hid (∀ V, Calls Try.prog 50 #[.int .i64 x, .int .i64 t.size] V fun e w' => e = .returned (.int .i64 i) ∧ V = w'))
    (H8 : Hid (∀ V, Calls Try.prog 50 #[.int .i64 y, .int .i64 t.size] V fun e w' => e = .returned (.int .i64 j) ∧ V = w'))
    (hlo : min (i : Int) (j : Int) = lo) (hhi : max (i : Int) (j : Int) = hi) (h3 : lo ≤ hi) (h4 : hi < t.size) (hz : t.extract lo hi = z)
    (H9 : Hid (∀ V, Calls Try.prog 20 #[.string z] V fun e w' => e = .returned (.tuple #[.int .i64 a5, .int .i64 p5, .int .i64 6]) ∧ Below V.heap.size V w')) :
    Calls Try.prog 9 #[.string s, .agg #[.int .i64 x, .int .i64 y]] w fun e w' => e = .returned (.bool true) ∧ Below w.heap.size w w' := by
  have HAW := Lib.hid awake_any
  have HV := Lib.hid hv
  have HZ := Lib.hid hz
  have hlo2 := Lib.hid hlo
  have hhi2 := Lib.hid hhi
  clear hlo hhi hv hz
  have b0 := Below.refl w.heap.size w
  have r0 : Row (w.alloc (.cells #[.int .i64 x, .int .i64 y] 66)) w.heap.size 66 [.int .i64 x, .int .i64 y] := row_new rfl
  replace b0 := b0.alloc (Nat.le_refl _) (.cells #[.int .i64 x, .int .i64 y] 66)
  have hi36 : (Try.prog.info? 36).map (·.size) = some ([.int .i64 n, .int .i64 d] : List Value).length := info36
  go_enter Try.func9, Try.ntmps9
  go_wp2_with (first
    | (rw [HV.out])
    | (go_at_call 48; (with_reducible refine (H0.out _).mono ?_); rintro e w1 ⟨rfl, b1⟩; replace r0 := r0.below b1; replace b0 := b0.trans (b1.mono b0.size))
    | (go_at_call 20; (with_reducible refine (H1.out _).mono ?_); rintro e w2 ⟨rfl, b1⟩; replace r0 := r0.below b1; replace b0 := b0.trans (b1.mono b0.size))
    | (go_at_call 30; (with_reducible refine (H2.out _).mono ?_); rintro e w3 ⟨rfl, b4⟩; replace b0 := (b0.trans (b4.mono b0.size)).alloc (by have := b0.size; have := b4.size; omega) (.cells #[.int .i64 n, .int .i64 d] 36); replace r0 := (r0.below b4).alloc (.cells #[.int .i64 n, .int .i64 d] 36); have r4 : Row (w3.alloc (.cells #[.int .i64 n, .int .i64 d] 36)) w3.heap.size 36 [.int .i64 n, .int .i64 d] := row_new rfl)
    | (go_at_call 21; (with_reducible refine (H3.out _).mono ?_); rintro e w4 ⟨rfl, b1⟩; replace r0 := r0.below b1; replace r4 := r4.below b1; replace b0 := b0.trans (b1.mono b0.size))
    | (go_at_call 49; (with_reducible refine (H4.out _).mono ?_); rintro e w5 ⟨rfl, rfl⟩)
    | (go_at_call 20; (with_reducible refine (H5.out _).mono ?_); rintro e w6 ⟨rfl, b1⟩; replace r0 := r0.below b1; replace r4 := r4.below b1; replace b0 := b0.trans (b1.mono b0.size); have c40 := r4.cell 0; have c41 := r4.cell 1)
    | (go_at_call 29; (with_reducible refine (H6.out _).mono ?_); rintro e w7 ⟨rfl, b4⟩; replace b0 := (b0.trans (b4.mono b0.size)).alloc (by have := b0.size; have := b4.size; omega) (.cells #[.int .i64 n, .int .i64 d] 36); replace r0 := (r0.below b4).alloc (.cells #[.int .i64 n, .int .i64 d] 36); replace r4 := (r4.below b4).alloc (.cells #[.int .i64 n, .int .i64 d] 36); have r6 : Row (w7.alloc (.cells #[.int .i64 n, .int .i64 d] 36)) w7.heap.size 36 [.int .i64 n, .int .i64 d] := row_new rfl; have k0 := r0.cell 0; have k1 := r0.cell 1)
    | ((with_reducible refine (?_ : wpList _ _ _ (Oper.mk (some 117) _ _ _ _ _ :: _) _ _)); refine wpList_load_row_w (by rfl) 36 (.tmp 19) rfl w7.heap.size rfl 36 [.int .i64 n, .int .i64 d].toArray (0, 0) _ (row_heap r6) Try.underlying36 rfl hi36 ?_)
    | ((with_reducible refine (?_ : wpList _ _ _ (Oper.mk (some 118) _ _ _ _ _ :: _) _ _)); refine wpList_load_row_w (by rfl) 36 (.tmp 9) rfl w3.heap.size rfl 36 [.int .i64 n, .int .i64 d].toArray (0, 0) _ (row_heap r4) Try.underlying36 rfl hi36 ?_))
  clear H0 H1 H2 H3 H4 H5 H6
  generalize World.alloc w7 _ = W at *
  go_region_held3 (fun w' => w'.cell? ⟨w.heap.size, 0, none⟩ = some (.int .i64 x) ∧ w'.cell? ⟨w.heap.size, 1, none⟩ = some (.int .i64 y)) (first | assumption | exact ⟨k0, k1⟩)
    (first
      | (go_at_call 50; (with_reducible refine (H7.out _).mono ?_); rintro e w2 ⟨rfl, rfl⟩)
      | (go_at_call 50; (with_reducible refine (H8.out _).mono ?_); rintro e w2 ⟨rfl, rfl⟩))
  replace b0 := b0.drew
  clear r4 r6 c40 c41 k0 k1 r0
  go_wp2_with (first
    | (rw [hlo2.out]) | (rw [hhi2.out]) | (rw [HZ.out])
    | (go_at_call 20; (with_reducible refine (H9.out _).mono ?_); rintro e w8 ⟨rfl, b3⟩; replace b0 := b0.trans (b3.mono b0.size))
    | (go_at_call 24; (with_reducible refine (HAW.out _).mono ?_); rintro e w9 ⟨rfl, b5⟩; replace b0 := b0.trans (b5.mono b0.size)))
  all_goals (go_ret; exact ⟨rfl, b0⟩)
theorem marksAgree_any (s : ByteArray) (x y : Int) (w : World) (hs : s.size ≤ maxLen) :
    Calls Try.prog 9 #[.string s, .agg #[.int .i64 x, .int .i64 y]] w fun e w' => e = .returned (.bool true) ∧ Below w.heap.size w w' := by
  unfold maxLen at hs
  obtain ⟨X, hX⟩ : ∃ X, tmW 4 60 s = X := ⟨_, rfl⟩
  have hl := tmW_len 4 60 s
  have hok : okW X := hX ▸ tmW_ok (by decide) 60 s
  rw [hX] at hl
  have H0 : Hid (∀ V, Calls Try.prog 48 #[.string s, .int .i64 60, .int .i64 4] V fun e w' => e = .returned (.string (wS X)) ∧ Below V.heap.size V w') := Lib.hid (fun V => by rw [← hX]; exact tame_any 4 60 s V (by decide) (by decide) (by omega) (by decide))
  clear hX
  rcases Nat.eq_zero_or_pos X.length with h0 | h1
  · have hnil : X = [] := List.eq_nil_of_length_eq_zero h0
    subst hnil
    exact marksAgree_none s x y w H0
  · have H7 : Hid (∀ V, Calls Try.prog 50 #[.int .i64 x, .int .i64 (wS X).size] V fun e w' => e = .returned (.int .i64 (modI x X.length)) ∧ V = w') := Lib.hid (fun V => by rw [wS_len]; exact mod_any x X.length V h1 (by omega))
    have H8 : Hid (∀ V, Calls Try.prog 50 #[.int .i64 y, .int .i64 (wS X).size] V fun e w' => e = .returned (.int .i64 (modI y X.length)) ∧ V = w') := Lib.hid (fun V => by rw [wS_len]; exact mod_any y X.length V h1 (by omega))
    have hi := modI_lt x h1
    have hj := modI_lt y h1
    generalize modI x X.length = i at *
    generalize modI y X.length = j at *
    obtain ⟨lo, hi', e1, e2, e3, e4⟩ : ∃ lo hi' : Nat, min (i : Int) (j : Int) = lo ∧ max (i : Int) (j : Int) = hi' ∧ lo ≤ hi' ∧ hi' < X.length := by
      rcases Nat.le_total i j with h | h
      · exact ⟨i, j, by omega, by omega, h, hj⟩
      · exact ⟨j, i, by omega, by omega, h, hi⟩
    obtain ⟨f1, f2, f3, f4⟩ := grT_fit h1
    have fn := grT_num h1
    obtain ⟨p1, p2, p3⟩ := grT_part h1
    have hel : (sub X (grT X).2.2 (grT X).1).length = (grT X).1 := by rw [sub_len]; omega
    have H6 := Lib.hid (fun V => Exponent_yes (sub X (grT X).2.2 (grT X).1) V (okW_sub hok _ _) (by omega) (by omega))
    rw [hel, ← p3] at H6
    obtain ⟨a1, a2, a3, a4, -⟩ := frc_facts (n := (grT X).1) (d := (grT X).2.1) fn f2
    have htwo := frc_two (n := (grT X).1) (d := (grT X).2.1) fn f2
    have hfg := free_grT (x := X) (by omega) h1
    have hrv := free_rev X
    have hrok : okW X.reverse := fun b hb => hok b (List.mem_reverse.1 hb)
    have hz : (wS X).extract lo hi' = wS (sub X lo (hi' - lo)) := wS_extract X lo hi'
    have hv : (wS X).extract (grT X).2.2 ((grT X).2.2 + (grT X).1) = wS (sub X (grT X).2.2 (grT X).1) := by rw [wS_extract]; congr 2; omega
    have H1 := Lib.hid (fun V => Square_yes X V hok (by omega))
    have H2 := Lib.hid (fun V => Greatest_yes X V hok h1 (by omega))
    have H3 := Lib.hid (fun V => Abelian_yes X V hok (by omega))
    have H4 := Lib.hid (fun V => back_any X V (by omega))
    have H5 := Lib.hid (fun V => Square_yes X.reverse V hrok (by rw [List.length_reverse]; omega))
    have H9 := Lib.hid (fun V => Square_yes (sub X lo (hi' - lo)) V (okW_sub hok _ _) (by rw [sub_len]; omega))
    cases hq : sqS X with
    | none =>
      have hf : free X = true := by unfold free; rw [hq]; rfl
      have hq5 : sqS X.reverse = none := by rw [hf] at hrv; unfold free at hrv; exact Option.isNone_iff_eq_none.1 hrv
      have hq9 : sqS (sub X lo (hi' - lo)) = none := by have := free_sub hf lo (hi' - lo); unfold free at this; exact Option.isNone_iff_eq_none.1 this
      rw [hq] at H1
      rw [hq5] at H5
      rw [hq9] at H9
      have hg := hfg.1 hf
      have hlt : (grT X).1 / Nat.gcd (grT X).1 (grT X).2.1 < 2 * ((grT X).2.1 / Nat.gcd (grT X).1 (grT X).2.1) := by
        rcases Nat.lt_or_ge ((grT X).1 / Nat.gcd (grT X).1 (grT X).2.1) (2 * ((grT X).2.1 / Nat.gcd (grT X).1 (grT X).2.1)) with h | h
        · exact h
        · have := htwo.1 h; omega
      obtain ⟨c, p, e3', hab⟩ : ∃ c p e3' : Int, frV (abS X) = .tuple #[.int .i64 c, .int .i64 p, .int .i64 e3'] := by
        cases abS X with
        | none => exact ⟨0, 0, 6, rfl⟩
        | some y => exact ⟨_, _, 0, rfl⟩
      rw [hab] at H3
      exact marksAgree_no s (wS X) _ _ _ x y i j lo hi' (grT X).2.2 (grT X).1 _ _ 0 0 c p e3' 0 0 0 0 w H0 (not_empty h1) (by rw [wS_len]; omega) H1 H2 H3 H4 H5 (by omega) (by omega) (by omega) p1 (by rw [wS_len]; exact p2) hv H6 H7 H8 e1 e2 e3 (by rw [wS_len]; exact e4) hz H9
    | some y0 =>
      obtain ⟨a, q⟩ := y0
      have hf : free X = false := by unfold free; rw [hq]; rfl
      have hq5 : ∃ b r, sqS X.reverse = some (b, r) := by
        rw [hf] at hrv
        unfold free at hrv
        cases hh : sqS X.reverse with
        | none => rw [hh] at hrv; cases hrv
        | some z => exact ⟨z.1, z.2, rfl⟩
      obtain ⟨b, r, hq5⟩ := hq5
      obtain ⟨c, k, hab, hca⟩ := ab_before hq
      rw [hq] at H1
      rw [hq5] at H5
      rw [hab] at H3
      have hg : 2 * (grT X).2.1 ≤ (grT X).1 := by
        rcases Nat.lt_or_ge (grT X).1 (2 * (grT X).2.1) with h | h
        · have := hfg.2 h; rw [hf] at this; cases this
        · exact h
      have h2 := htwo.2 hg
      obtain ⟨c5, p5, e5, h9⟩ : ∃ c p e3' : Int, frV (sqS (sub X lo (hi' - lo))) = .tuple #[.int .i64 c, .int .i64 p, .int .i64 e3'] := by
        cases sqS (sub X lo (hi' - lo)) with
        | none => exact ⟨0, 0, 6, rfl⟩
        | some y => exact ⟨_, _, 0, rfl⟩
      rw [h9] at H9
      exact marksAgree_sq s (wS X) _ _ _ x y i j lo hi' (grT X).2.2 (grT X).1 _ _ a (q + 1 : Nat) c (k + 1 : Nat) b (r + 1 : Nat) c5 p5 e5 w H0 (not_empty h1) (by rw [wS_len]; omega) H1 H2 H3 H4 H5 (by omega) (by omega) (by omega) (by omega) p1 (by rw [wS_len]; exact p2) hv H6 H7 H8 e1 e2 e3 (by rw [wS_len]; exact e4) hz H9
end Go.Proofs.Ytoklnpiehbnalaa
