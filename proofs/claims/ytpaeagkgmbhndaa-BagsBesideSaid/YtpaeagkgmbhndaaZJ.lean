/- Parts AQ AR AS AT of the proof, in this order. -/
import Derived.Test.YtpaeagkgmbhndaaZI
/- The program computes the simple results that every statement asks for. -/
namespace Go.Proofs.Ytpaeagkgmbhndaa
open Go.RowKit
set_option maxHeartbeats 1000000
set_option maxRecDepth 100000
def es4 : List (Int × Int) := [(0, 1), (0, 2), (1, 2), (2, 3)]
def gs4 : List Nat := [6, 5, 11, 4, 0, 0, 0, 0, 0, 0, 0, 0, 0, 0, 0, 0]
theorem read4 : readF (4 : Nat) es4 = some gs4 := by decide
theorem lt_bits {T m : Nat} (h : ∀ v, sHas T v = true → v < m) : T < 2 ^ m := by
  refine Nat.lt_pow_two_of_testBit T fun i hi => ?_
  cases hb : T.testBit i
  · rfl
  · have := h i hb; omega
theorem up4 : ∀ T, T < 16 → 1 * (endsOf gs4 T (ms T) / 2) ≤ 1 * pc 16 T := by decide
theorem dens4 : Dens 4 gs4 15 1 1 := by
  have hs : ∀ v, sHas 15 v = true → v < 4 := fun v hv => by
    have e : (15 : Nat) = sAll 4 := rfl
    unfold sHas at hv; rw [e, all_bit] at hv; simpa using hv
  refine ⟨by decide, by decide, hs, by decide, by decide, by decide, by decide, fun T _ hT => up4 T (lt_bits hT), fun T _ hT _ v hv => ?_⟩
  have := hT v hv
  have e : (15 : Nat) = sAll 4 := rfl
  unfold sHas; rw [e, all_bit]; simpa using this
theorem Densest_4 (b : Nat) (w : World) (ha : PairsAt w (some ⟨b, 0, none⟩) es4) :
    Calls Try.prog 15 #[.int .i64 4, .slice (some ⟨b, 0, none⟩) 4 4] w fun e w' => ∃ A k B, e = .returned (.tuple #[.slice A 4 k, .agg #[.int .i64 1, .int .i64 1], .slice (some ⟨B, 0, none⟩) 4 4, .int .i64 0]) ∧ IntsAt w' A [0, 1, 2, 3] ∧ Below w.heap.size w w' := by
  refine (Densest_some 4 (some ⟨b, 0, none⟩) 4 es4 gs4 w (by decide) ha read4).mono ?_
  rintro e w' ⟨v, g, s, p, q, H, L, f, rfl, hd, -, -, -, hown, -, -, hb⟩
  obtain ⟨rfl, rfl, rfl⟩ := Dens.one hd dens4
  obtain ⟨A, k, rfl, -, hi⟩ := own_ints hown
  exact ⟨A, k, g, rfl, hi, hb⟩
theorem Height_4 (b c : Nat) (w : World) (ha : PairsAt w (some ⟨b, 0, none⟩) es4) (hc : IntsAt w (some ⟨c, 0, none⟩) [0, 0, 1, 2]) :
    Calls Try.prog 31 #[.int .i64 4, .slice (some ⟨b, 0, none⟩) 4 4, .slice (some ⟨c, 0, none⟩) 4 4] w fun e w' => e = .returned (.tuple #[.int .i64 2, .int .i64 0]) ∧ Below w.heap.size w w' := by
  refine (Height_some 4 (some ⟨b, 0, none⟩) (some ⟨c, 0, none⟩) 4 4 es4 gs4 [0, 0, 1, 2] w (by decide) ha hc read4 rfl).mono ?_
  rintro e w' ⟨rfl, hb⟩
  refine ⟨?_, hb⟩
  rw [heightV_yes (by decide)]
  have : maxTo (natI (cntT [0, 0, 1, 2] 4)) 16 = 2 := by decide
  show Ending.returned (.tuple #[.int .i64 (maxTo (natI (cntT [0, 0, 1, 2] 4)) 16), .int .i64 0]) = _
  rw [this]
theorem Cores_4 (b : Nat) (w : World) (ha : PairsAt w (some ⟨b, 0, none⟩) es4) :
    Calls Try.prog 32 #[.int .i64 4, .slice (some ⟨b, 0, none⟩) 4 4] w fun e w' => ∃ g, e = .returned (.tuple #[.slice (some ⟨g, 0, none⟩) 4 4, .int .i64 0]) ∧ IntsAt w' (some ⟨g, 0, none⟩) [2, 2, 2, 1] ∧ Below w.heap.size w w' := by
  refine (Cores_some 4 (some ⟨b, 0, none⟩) 4 es4 gs4 w (by decide) ha read4).mono ?_
  rintro e w' ⟨g, -, rfl, hr, hb⟩
  have e1 : coreF 4 gs4 = [2, 2, 2, 1] := by decide
  rw [e1] at hr
  exact ⟨g, rfl, row_ints hr, hb⟩
theorem Peel_4 (b : Nat) (w : World) (ha : PairsAt w (some ⟨b, 0, none⟩) es4) :
    Calls Try.prog 33 #[.int .i64 4, .slice (some ⟨b, 0, none⟩) 4 4] w fun e w' => ∃ A k, e = .returned (.tuple #[.slice A 4 k, .int .i64 2, .int .i64 0]) ∧ IntsAt w' A [3, 0, 1, 2] ∧ Below w.heap.size w w' := by
  refine (Peel_some 4 (some ⟨b, 0, none⟩) 4 es4 gs4 w (by decide) ha read4).mono ?_
  rintro e w' ⟨v, rfl, hown, hb⟩
  have e1 : ordF 4 gs4 = [3, 0, 1, 2] := by decide
  have e2 : maxTo (natI (lftF 4 gs4)) 4 = 2 := by decide
  rw [e1] at hown
  rw [e2]
  obtain ⟨A, k, rfl, -, hi⟩ := own_ints hown
  exact ⟨A, k, rfl, hi, hb⟩
end Go.Proofs.Ytpaeagkgmbhndaa
/- awake answers true. -/
namespace Go.Proofs.Ytpaeagkgmbhndaa
open Go.RowKit
set_option maxHeartbeats 1000000
set_option maxRecDepth 100000
theorem ints_yes (A B : Option Addr) (c d : Nat) (xs : List Int) (n : Nat) (w : World) (hn : xs.length = n) (hx : n ≤ 1000000) (ha : IntsAt w A xs) (hb : IntsAt w B xs) :
    Calls Try.prog 21 #[.slice A n c, .slice B n d] w fun e w' => e = .returned (.bool true) ∧ ∃ n, w' = w.drewN n := by
  subst hn
  refine (ints_any A B c d xs xs w hx hx ha hb).mono fun e w' ⟨h1, h2⟩ => ⟨by rw [h1]; simp, h2⟩
theorem ints_new {W : World} {g : Nat} (xs : List Nat) (h : W.heap.size = g) : IntsAt (W.alloc (.cells (intv xs).toArray 3)) (some ⟨g, 0, none⟩) (natI xs) := row_ints (row_new h)
theorem PairsAt.alloc {w : World} {A : Option Addr} {ps : List (Int × Int)} (h : PairsAt w A ps) (o : Obj) : PairsAt (w.alloc o) A ps := h.below ((Below.refl _ _).alloc (Nat.le_refl _) o)
theorem IntsAt.alloc {w : World} {A : Option Addr} {ps : List Int} (h : IntsAt w A ps) (o : Obj) : IntsAt (w.alloc o) A ps := h.below ((Below.refl _ _).alloc (Nat.le_refl _) o)
theorem IntsAt.drewN {w : World} {A : Option Addr} {ps : List Int} (h : IntsAt w A ps) (n : Nat) : IntsAt (w.drewN n) A ps := h.below (below_drewN n)
theorem pairs4 (w : World) : PairsAt (w.alloc (.cells #[.int .i64 0, .int .i64 1, .int .i64 0, .int .i64 2, .int .i64 1, .int .i64 2, .int .i64 2, .int .i64 3] 67)) (some ⟨w.heap.size, 0, none⟩) es4 := by
  intro _
  refine ⟨w.heap.size, 0, rfl, by simp, fun i hi => ?_⟩
  have hr : Row (w.alloc (.cells #[.int .i64 0, .int .i64 1, .int .i64 0, .int .i64 2, .int .i64 1, .int .i64 2, .int .i64 2, .int .i64 3] 67)) w.heap.size 67 [.int .i64 0, .int .i64 1, .int .i64 0, .int .i64 2, .int .i64 1, .int .i64 2, .int .i64 2, .int .i64 3] := row_new rfl
  rw [hr.cell, hr.cell]
  have : i = 0 ∨ i = 1 ∨ i = 2 ∨ i = 3 := by have : es4.length = 4 := rfl; omega
  rcases this with rfl | rfl | rfl | rfl <;> exact ⟨rfl, rfl⟩
theorem awake_any (w : World) : Calls Try.prog 18 #[] w fun e w' => e = .returned (.bool true) ∧ Below w.heap.size w w' := by
  go_enter Try.func18, Try.ntmps18
  go_wp2_with (first
    | (go_at_call 15; refine (Densest_4 _ _ (pairs4 w)).mono ?_; rintro e w2 ⟨A, k, B, rfl, hi2, hb2⟩; have p2 := (pairs4 w).below hb2; have b2 := ((Below.refl _ w).alloc (Nat.le_refl _) _).trans (hb2.mono (by simp)); clear hb2)
    | (go_at_call 31; refine (Height_4 _ _ _ ((p2.alloc _).alloc _) (ints_new [0, 0, 1, 2] (by simp))).mono ?_; rintro e w3 ⟨rfl, hb3⟩; have p3 := ((p2.alloc _).alloc _).below hb3; have i3 := ((hi2.alloc _).alloc _).below hb3; have r3 := ((row_new rfl : Row (w2.alloc (.cells #[.int .i64 1, .int .i64 1] 26)) _ 26 [.int .i64 1, .int .i64 1]).alloc _).below hb3; have b3 := ((b2.alloc b2.size _).alloc (by have := b2.size; simp; omega) _).trans (hb3.mono (by have := b2.size; simp; omega)); clear p2 hi2 hb3 b2)
    | (go_at_call 32; refine (Cores_4 _ _ p3).mono ?_; rintro e w4 ⟨g4, rfl, c4, hb4⟩; have p4 := p3.below hb4; have i4 := i3.below hb4; have r4 := r3.below hb4; have b4 := b3.trans (hb4.mono b3.size); clear p3 i3 r3 b3 hb4)
    | (go_at_call 33; refine (Peel_4 _ _ p4).mono ?_; rintro e w5 ⟨A5, k5, rfl, q5, hb5⟩; have i5 := i4.below hb5; have c5 := c4.below hb5; have r5 := r4.below hb5; have b5 := b4.trans (hb5.mono b4.size); clear p4 i4 c4 r4 b4 hb5)
    | (go_at_call 21; ((with_reducible refine (ints_yes A _ k _ [0, 1, 2, 3] 4 _ rfl (by decide) (i5.alloc _) (ints_new [0, 1, 2, 3] rfl)).mono ?_); rintro e w6 ⟨rfl, n6, rfl⟩); have r6 := (r5.alloc (.cells #[.int .i64 0, .int .i64 1, .int .i64 2, .int .i64 3] 3)).drewN n6; obtain ⟨⟨x0, x1⟩, -⟩ := r6.cells2; have c6 := (c5.alloc (.cells #[.int .i64 0, .int .i64 1, .int .i64 2, .int .i64 3] 3)).drewN n6; have q6 := (q5.alloc (.cells #[.int .i64 0, .int .i64 1, .int .i64 2, .int .i64 3] 3)).drewN n6; have b6 := (b5.alloc b5.size (.cells #[.int .i64 0, .int .i64 1, .int .i64 2, .int .i64 3] 3)).trans (below_drewN n6); clear r5 c5 q5 b5 i5 r6)
    | (go_at_call 21; ((with_reducible refine (ints_yes (some ⟨g4, 0, none⟩) _ 4 _ [2, 2, 2, 1] 4 _ rfl (by decide) (c6.alloc _) (ints_new [2, 2, 2, 1] (by simp))).mono ?_); rintro e w7 ⟨rfl, n7, rfl⟩); have q7 := (q6.alloc (.cells #[.int .i64 2, .int .i64 2, .int .i64 2, .int .i64 1] 3)).drewN n7; have b7 := (b6.alloc b6.size (.cells #[.int .i64 2, .int .i64 2, .int .i64 2, .int .i64 1] 3)).trans (below_drewN n7); clear c6 q6 b6)
    | (go_at_call 21; ((with_reducible refine (ints_yes A5 _ k5 _ [3, 0, 1, 2] 4 _ rfl (by decide) (q7.alloc _) (ints_new [3, 0, 1, 2] (by simp))).mono ?_); rintro e w8 ⟨rfl, n8, rfl⟩); have b8 := (b7.alloc b7.size (.cells #[.int .i64 3, .int .i64 0, .int .i64 1, .int .i64 2] 3)).trans (below_drewN n8); clear q7 b7))
  go_ret
  exact ⟨rfl, b8⟩
end Go.Proofs.Ytpaeagkgmbhndaa
/- The reference's own look at graphs. -/
namespace Go.Proofs.Ytpaeagkgmbhndaa
open Go.RowKit
set_option maxHeartbeats 1000000
set_option maxRecDepth 100000
def bcells (n : Nat) (f : Nat → Bool) : List Value := (List.range n).map fun j => Value.bool (f j)
theorem bcells_at {n : Nat} (f : Nat → Bool) {j : Nat} (h : j < n) : (bcells n f)[j]? = some (.bool (f j)) := by
  unfold bcells; rw [List.getElem?_map, List.getElem?_range h]; rfl
theorem bcells_set {n : Nat} {f : Nat → Bool} {v : Nat} (x : Bool) : (bcells n f).set v (.bool x) = bcells n (fun j => if j = v then x else f j) := by
  unfold bcells
  apply List.ext_getElem?
  intro i
  rw [List.getElem?_set, List.getElem?_map, List.getElem?_map]
  by_cases hi : i < n
  · rw [List.getElem?_range hi]
    by_cases e : v = i
    · subst e; simp [hi]
    · simp [e, Ne.symm e]
  · rw [List.getElem?_eq_none (by simpa using hi)]
    by_cases e : v = i
    · subst e; simp [hi]
    · simp [e]
theorem zero83 : Try.zeroCells83 = (bcells 256 fun _ => false).toArray := by kernel_rfl
/-- The table of edges seen is that of the graph read. -/
structure SeenI (m : Nat) (es : List (Int × Int)) (k : Nat) (gs : List Nat) (f : Nat → Bool) : Prop where
  rows : Rows16 gs
  rest : rd m es Z16 = rd m (es.drop k) gs
  at_ : ∀ a b, a < b → b < 16 → f (16 * a + b) = sHas (near gs a) b
theorem SeenI.start (m : Nat) (es : List (Int × Int)) : SeenI m es 0 Z16 fun _ => false :=
  ⟨rows_zero, by simp, fun a b _ _ => by unfold near sHas; rw [List.getElem?_replicate]; split <;> simp⟩
theorem SeenI.bad {m : Nat} {es : List (Int × Int)} {k : Nat} {gs : List Nat} {f : Nat → Bool} (s : SeenI m es k gs f) (hk : k < es.length) (hm : 1 ≤ m ∧ m ≤ 16) (h : okE m gs (pA es k, pB es k) = false) : (readF m es).isSome = false := by
  unfold readF
  rw [if_pos (by omega), s.rest, rd_step hk, if_neg (by simp [h])]; rfl
theorem SeenI.done {m : Nat} {es : List (Int × Int)} {gs : List Nat} {f : Nat → Bool} (s : SeenI m es es.length gs f) (hm : 1 ≤ m ∧ m ≤ 16) : (readF m es).isSome = true := by
  unfold readF
  rw [if_pos (by omega), s.rest, List.drop_length, rd]; rfl
theorem SeenI.step {m : Nat} {es : List (Int × Int)} {k : Nat} {gs : List Nat} {f : Nat → Bool} (s : SeenI m es k gs f) (hk : k < es.length) (hm : m ≤ 16) {a b : Nat} (ha : pA es k = a) (hb : pB es k = b) (hab : a < b) (hbm : b < m) (hf : f (16 * a + b) = false) :
    SeenI m es (k + 1) (addE gs a b) (fun j => if j = 16 * a + b then true else f j) := by
  have hok : okE m gs (pA es k, pB es k) = true := by
    unfold okE
    rw [ha, hb]
    have := s.at_ a b hab (by omega)
    rw [hf] at this
    simp only [Int.toNat_natCast, ← this]
    simp; omega
  refine ⟨s.rows.addE (by omega) (by omega), ?_, fun u v huv hv => ?_⟩
  · rw [s.rest, rd_step hk, if_pos hok, ha, hb]; rfl
  · have h1 := add_has s.rows (a := a) (b := b) (by omega) (by omega) (by omega) u v
    have h2 := s.at_ u v huv hv
    by_cases e : u = a ∧ v = b
    · obtain ⟨rfl, rfl⟩ := e
      rw [if_pos rfl]
      exact (h1.2 (.inr (.inl ⟨rfl, rfl⟩))).symm
    · rw [if_neg (by omega), h2, Bool.eq_iff_iff, h1]
      constructor
      · exact .inl
      · rintro (h | h | h)
        · exact h
        · exact absurd h e
        · omega
theorem Graph_any (n : Int) (A : Option Addr) (c : Nat) (es : List (Int × Int)) (w : World) (hx : es.length ≤ 1000000) (ha : PairsAt w A es) :
    Calls Try.prog 16 #[.int .i64 n, .slice A es.length c] w fun e w' => e = .returned (.bool (readF n es).isSome) ∧ Below w.heap.size w w' := by
  by_cases hn : 1 ≤ n ∧ n ≤ 16
  · obtain ⟨m, rfl⟩ : ∃ m : Nat, n = m := ⟨n.toNat, by omega⟩
    have hm : 1 ≤ m ∧ m ≤ 16 := by omega
    have g1 : decide ((m : Int) < 1) = false := decide_eq_false (by omega)
    have g2 : decide (16 < (m : Int)) = false := decide_eq_false (by omega)
    have hz := Lib.hid zero83
    go_enter Try.func16, Try.ntmps16
    go_wp2
    have r0 : Row (w.alloc (.cells Try.zeroCells83 83)) w.heap.size 83 (bcells 256 fun _ => false) := by rw [hz.out]; exact row_new rfl
    have hb0 : Below w.heap.size w (w.alloc (.cells Try.zeroCells83 83)) := (Below.refl _ w).alloc (Nat.le_refl _) _
    generalize World.alloc w _ = w1 at *
    go_loopw [6] (fun i wr => ∃ k gs f, k ≤ es.length ∧ i = .int .i64 (k : Nat) ∧ SeenI m es k gs f ∧ Row wr w.heap.size 83 (bcells 256 f) ∧ Below w.heap.size w wr) (fun i _ => es.length - (intOf i).toNat)
    case atStart => exact ⟨0, Z16, fun _ => false, by omega, rfl, SeenI.start m es, r0, hb0⟩
    case round =>
      obtain ⟨k, gs, f, hk, rfl, hs, hr, hb⟩ := hrel
      have HS := Lib.hid hs
      clear hs
      by_cases hlt : k < es.length
      · obtain ⟨B, o, rfl, hB, hc⟩ := (ha.below hb) (by omega)
        obtain ⟨c0, c1⟩ := hc k hlt
        clear hc
        have HBAD := Lib.hid (HS.out.bad hlt hm)
        generalize hpA : pA es k = x at *
        generalize hpB : pB es k = y at *
        have HA := Lib.hid hpA
        have HB := Lib.hid hpB
        clear hpA hpB
        cases q1 : decide (x < 0)
        · cases q2 : decide (y ≤ x)
          · cases q3 : decide ((m : Int) ≤ y)
            · have := of_decide_eq_false q1
              have := of_decide_eq_false q2
              have := of_decide_eq_false q3
              obtain ⟨a, rfl⟩ : ∃ a : Nat, x = a := ⟨x.toNat, by omega⟩
              obtain ⟨b, rfl⟩ : ∃ b : Nat, y = b := ⟨y.toNat, by omega⟩
              have hab : a < b := by omega
              have hbm : b < m := by omega
              have hcell : wr.cell? ⟨w.heap.size, 16 * a + b, none⟩ = some (.bool (f (16 * a + b))) := by rw [hr.cell, bcells_at f (by omega)]
              have hfree := hr.free (16 * a + b)
              cases q4 : f (16 * a + b)
              · rw [q4] at hcell
                go_wp2
                go_quiet (fail)
                go_wp2
                go_roundw
                case rel =>
                  refine ⟨k + 1, addE gs a b, fun j => if j = 16 * a + b then true else f j, by omega, by go_num, HS.out.step hlt hm.2 HA.out HB.out hab hbm q4, ?_, (hb.trans (below_drewN nq)).setCell (by simp) _⟩
                  have := (hr.drewN nq).set (16 * a + b) (.bool true)
                  rw [bcells_set] at this; exact this
                case measure => simp [intOf]; omega
              · rw [q4] at hcell
                go_wp2
                go_quiet (fail)
                go_wp2
                go_ret
                refine ⟨ret_bool (HBAD.out ?_).symm, hb.trans (below_drewN nq)⟩
                have := HS.out.at_ a b hab (by omega)
                unfold okE
                simp only [Int.toNat_natCast, ← this, q4]
                simp
            · go_wp2
              go_quiet (fail)
              go_wp2
              go_ret
              exact ⟨ret_bool (HBAD.out (by have := of_decide_eq_true q3; unfold okE; simp; omega)).symm, hb.trans (below_drewN nq)⟩
          · go_wp2
            go_quiet (fail)
            go_wp2
            go_ret
            exact ⟨ret_bool (HBAD.out (by have := of_decide_eq_true q2; unfold okE; simp; omega)).symm, hb.trans (below_drewN nq)⟩
        · go_wp2
          go_quiet (fail)
          go_wp2
          go_ret
          exact ⟨ret_bool (HBAD.out (by have := of_decide_eq_true q1; unfold okE; simp; omega)).symm, hb.trans (below_drewN nq)⟩
      · obtain rfl : k = es.length := by omega
        go_wp2
        go_ret
        exact ⟨ret_bool (HS.out.done hm).symm, hb⟩
  · have hno : (readF n es).isSome = false := by unfold readF; rw [if_neg hn]; rfl
    cases q1 : decide (n < 1)
    · have := of_decide_eq_false q1
      have q2 : decide (16 < n) = true := decide_eq_true (by omega)
      have HN := Lib.hid hno
      clear hno
      go_enter Try.func16, Try.ntmps16
      go_wp2
      go_ret
      exact ⟨ret_bool HN.out.symm, Below.refl _ _⟩
    · have HN := Lib.hid hno
      clear hno
      go_enter Try.func16, Try.ntmps16
      go_wp2
      go_ret
      exact ⟨ret_bool HN.out.symm, Below.refl _ _⟩
end Go.Proofs.Ytpaeagkgmbhndaa
/- The reference's own height. -/
namespace Go.Proofs.Ytpaeagkgmbhndaa
open Go.RowKit
set_option maxHeartbeats 1000000
set_option maxRecDepth 100000
theorem maxTo_spec (xs : List Int) : ∀ n, 0 < n → (∀ i, i < n → geti xs i ≤ maxTo xs n) ∧ ∃ i, i < n ∧ geti xs i = maxTo xs n
  | 0, h => absurd h (by omega)
  | 1, _ => ⟨fun i hi => by obtain rfl : i = 0 := by omega
                            rw [maxTo_one]; exact Int.le_refl _, 0, by omega, (maxTo_one xs).symm⟩
  | n + 2, _ => by
    obtain ⟨h1, j, hj, h2⟩ := maxTo_spec xs (n + 1) (by omega)
    rw [maxTo]
    split
    · refine ⟨fun i hi => ?_, n + 1, by omega, rfl⟩
      by_cases e : i = n + 1
      · subst e; exact Int.le_refl _
      · have := h1 i (by omega); omega
    · refine ⟨fun i hi => ?_, j, by omega, h2⟩
      by_cases e : i = n + 1
      · subst e; omega
      · exact h1 i (by omega)
/-- The greatest count so far. -/
structure HtI (hs : List Int) (k G : Nat) : Prop where
  up : ∀ v, getn (cntT hs k) v ≤ G
  at_ : G = 0 ∨ ∃ v, v < 16 ∧ getn (cntT hs k) v = G
theorem getn_zer (v : Nat) : getn zer v = 0 := by unfold getn zer; rw [List.getD_eq_getElem?_getD, List.getElem?_replicate]; split <;> rfl
theorem HtI.start (hs : List Int) : HtI hs 0 0 := ⟨fun v => by show getn zer v ≤ 0; rw [getn_zer]; omega, .inl rfl⟩
theorem HtI.step {hs : List Int} {k G : Nat} (h : HtI hs k G) (hk : k < hs.length) (hx : (geti hs k).toNat < 16) : HtI hs (k + 1) (if G < getn (cntT hs k) (geti hs k).toNat + 1 then getn (cntT hs k) (geti hs k).toNat + 1 else G) := by
  have hl := cntT_len hs k
  have hs' : ∀ v, getn (cntT hs (k + 1)) v = if (geti hs k).toNat = v then getn (cntT hs k) (geti hs k).toNat + 1 else getn (cntT hs k) v := fun v => by
    rw [cntT_succ hk, getn_set (by omega)]
  refine ⟨fun v => ?_, ?_⟩
  · rw [hs']; have := h.up v; split <;> split <;> omega
  · split
    · exact .inr ⟨_, hx, by rw [hs', if_pos rfl]⟩
    · rename_i hge
      rcases h.at_ with h0 | ⟨v, hv, h1⟩
      · omega
      · refine .inr ⟨v, hv, ?_⟩
        rw [hs']
        split
        · rename_i e; subst e; omega
        · exact h1
theorem HtI.eq {hs : List Int} {k G : Nat} (h : HtI hs k G) : maxTo (natI (cntT hs k)) 16 = (G : Int) := by
  obtain ⟨h1, j, hj, h2⟩ := maxTo_spec (natI (cntT hs k)) 16 (by omega)
  rw [geti_natI] at h2
  have h3 := h.up j
  rcases h.at_ with h0 | ⟨v, hv, h4⟩
  · omega
  · have := h1 v hv; rw [geti_natI] at this; omega
theorem RefHeight_any (m : Nat) (A : Option Addr) (c : Nat) (hs : List Int) (w : World) (hm : m ≤ 16) (hx : hs.length ≤ 1000000) (ha : IntsAt w A hs) (hh : ∀ i, i < hs.length → 0 ≤ geti hs i ∧ geti hs i < m) :
    Calls Try.prog 29 #[.int .i64 m, .slice A hs.length c] w fun e w' => e = .returned (.int .i64 (maxTo (natI (cntT hs hs.length)) 16)) ∧ Below w.heap.size w w' := by
  obtain ⟨i0, hi, hz0, hz1, hz2⟩ := info_parts info3
  have HH := Lib.hid hh
  clear hh
  go_enter Try.func29, Try.ntmps29
  go_wp2_with (first
    | (at_make; refine wpList_make_full _ rfl _ _ 24 rfl w.heap.size 3 i0 (.int .i64 0) 1 Try.underlying24 hi hz0 hz1 .i64 .i64 _ _ m rfl rfl rfl rfl (by rw [hz2]; omega) (by unfold maxLen; omega) (Nat.le_refl _) ?_; intro w4 o3 hg4; have r4 := own_made o3; have hb4 : Below w.heap.size w w4 := (Below.refl _ _).grown hg4 (Nat.le_refl _) (by simp); clear o3 hg4))
  go_loopw [6, 7] (fun g i wr => ∃ (k G : Nat) (cs : List Nat), k ≤ hs.length ∧ i = .int .i64 k ∧ g = .int .i64 G ∧ HtI hs k G ∧ (cs.length = m ∧ ∀ v, v < m → getn cs v = getn (cntT hs k) v) ∧ Row wr w.heap.size 3 (intv cs) ∧ Below w.heap.size w wr) (fun _ i _ => hs.length - (intOf i).toNat)
  case atStart => exact ⟨0, 0, List.replicate m 0, by omega, rfl, rfl, HtI.start hs, ⟨by simp, fun v hv => by show _ = getn zer v; rw [getn_zer]; unfold getn; rw [List.getD_eq_getElem?_getD, List.getElem?_replicate]; split <;> rfl⟩, r4, hb4⟩
  case round =>
    obtain ⟨k, G, cs, hk, rfl, rfl, hI, ⟨hcl, hcv⟩, hr, hb⟩ := hrel
    have HI := Lib.hid hI
    have HCL := Lib.hid hcl
    have HCV := Lib.hid hcv
    clear hI hcl hcv
    by_cases hlt : k < hs.length
    · obtain ⟨b, o, rfl, hb1, hc⟩ := (ha.below hb) (by omega)
      have c0 := hc k hlt
      obtain ⟨e1, e2⟩ := HH.out k hlt
      have HS := Lib.hid (HI.out.step hlt (by omega))
      have hcnt := cntT_le hs (geti hs k).toNat k
      have HCT := Lib.hid (cntT_succ hlt)
      generalize hX : geti hs k = x at *
      have HX := Lib.hid hX
      clear hc hX
      obtain ⟨v, rfl⟩ : ∃ v : Nat, x = v := ⟨x.toNat, by omega⟩
      have hv : v < m := by omega
      have ev := HCV.out v hv
      have c4 : wr.cell? ⟨w.heap.size, v, none⟩ = some (.int .i64 (getn cs v)) := intv_row hr (by rw [HCL.out]; exact hv)
      have f4 := hr.free v
      have hup := HI.out.up v
      have hst : Row (wr.setCell ⟨w.heap.size, v, none⟩ (.int .i64 ((getn cs v + 1 : Nat) : Int))) w.heap.size 3 (intv (cs.set v (getn cs v + 1))) := by
        have := hr.set v (.int .i64 ((getn cs v + 1 : Nat) : Int))
        rwa [intv_set] at this
      have HST := Lib.hid hst
      simp only [Int.toNat_natCast] at hcnt
      have hcb : getn cs v ≤ 1000000 := by omega
      have HEV := Lib.hid ev
      clear hst ev hcnt hup
      have hnew : ∀ u, u < m → getn (cs.set v (getn cs v + 1)) u = getn (cntT hs (k + 1)) u := fun u hu => by
        rw [getn_set (by rw [HCL.out]; exact hv), HCT.out, getn_set (by rw [cntT_len]; simp; omega)]
        simp only [Int.toNat_natCast]
        split
        · rw [HEV.out]
        · exact HCV.out u hu
      have HN := Lib.hid hnew
      clear hnew
      by_cases hgf : G < getn cs v + 1
      · go_wp2
        go_roundw
        case rel => exact ⟨k + 1, getn cs v + 1, cs.set v (getn cs v + 1), by omega, by go_num, by go_num, by have := HS.out; simp only [Int.toNat_natCast, ← HEV.out] at this; rw [if_pos hgf] at this; exact this, ⟨by simp [HCL.out], HN.out⟩, HST.out, hb.setCell (p := ⟨_, _, none⟩) (Nat.le_refl _) _⟩
        case measure => simp [intOf]; omega
      · go_wp2
        go_roundw
        case rel => exact ⟨k + 1, G, cs.set v (getn cs v + 1), by omega, by go_num, rfl, by have := HS.out; simp only [Int.toNat_natCast, ← HEV.out] at this; rw [if_neg hgf] at this; exact this, ⟨by simp [HCL.out], HN.out⟩, HST.out, hb.setCell (p := ⟨_, _, none⟩) (Nat.le_refl _) _⟩
        case measure => simp [intOf]; omega
    · obtain rfl : k = hs.length := by omega
      go_wp2
      go_ret
      exact ⟨ret_int HI.out.eq.symm, hb⟩
end Go.Proofs.Ytpaeagkgmbhndaa
