/- Parts AU AV AW of the proof, in this order. -/
import Derived.Maps.AppendAt
import Derived.Laws.AppendOwnNone
import Derived.Test.YtpaeagkgmbhndaaZJ
import Derived.ProofKit
import Derived.Carry
import Derived.Deep.SlicePairs
/- Copies of lists. -/
namespace Go.Proofs.Ytpaeagkgmbhndaa
open Go.RowKit
set_option maxHeartbeats 1000000
set_option maxRecDepth 100000
def pv (ps : List (Int × Int)) : List Value := ps.flatMap fun p => [.int .i64 p.1, .int .i64 p.2]
def iv (xs : List Int) : List Value := xs.map (Value.int .i64)
theorem iv_len (xs : List Int) : (iv xs).length = xs.length := List.length_map _
theorem pv_len (ps : List (Int × Int)) : (pv ps).length = ps.length * 2 := by
  induction ps with
  | nil => rfl
  | cons p ps ih => unfold pv at *; simp [ih]; omega
theorem pv_at : ∀ (ps : List (Int × Int)) (i : Nat), i < ps.length → (pv ps)[i * 2]? = some (.int .i64 (pA ps i)) ∧ (pv ps)[i * 2 + 1]? = some (.int .i64 (pB ps i))
  | [], _, h => absurd h (by simp)
  | p :: ps, 0, _ => ⟨rfl, rfl⟩
  | p :: ps, i + 1, h => by
    obtain ⟨h1, h2⟩ := pv_at ps i (by simpa using h)
    have e : pv (p :: ps) = .int .i64 p.1 :: .int .i64 p.2 :: pv ps := rfl
    have e1 : pA (p :: ps) (i + 1) = pA ps i := rfl
    have e2 : pB (p :: ps) (i + 1) = pB ps i := rfl
    rw [e, e1, e2]
    refine ⟨?_, ?_⟩
    · rw [show (i + 1) * 2 = i * 2 + 1 + 1 by omega]; simpa using h1
    · rw [show (i + 1) * 2 + 1 = i * 2 + 1 + 1 + 1 by omega]; simpa using h2
theorem pv_one (ps : List (Int × Int)) : ∀ u ∈ pv ps, u.oneCell' = true := by
  intro u hu
  unfold pv at hu
  simp only [List.mem_flatMap, List.mem_cons, List.not_mem_nil, or_false] at hu
  obtain ⟨p, _, rfl | rfl⟩ := hu <;> rfl
theorem iv_one (xs : List Int) : ∀ u ∈ iv xs, u.oneCell' = true := by
  intro u hu
  unfold iv at hu
  obtain ⟨x, _, rfl⟩ := List.mem_map.1 hu
  rfl
theorem pA_take (es : List (Int × Int)) (k i : Nat) (h : i < k) : pA (es.take k) i = pA es i ∧ pB (es.take k) i = pB es i := by
  unfold pA pB; simp [h]
theorem geti_take (xs : List Int) (k i : Nat) (h : i < k) : geti (xs.take k) i = geti xs i := by
  unfold geti; simp [h]
/-- The first pairs lie where the pairs lie. -/
theorem PairsAt.news {w : World} {ad : Addr} {es : List (Int × Int)} (h : PairsAt w (some ad) es) (k : Nat) : ∀ j u, (pv (es.take k))[j]? = some u → w.cell? (ad.add j) = some u := by
  intro j u hj
  have hjl := (List.getElem?_eq_some_iff.1 hj).1
  rw [pv_len] at hjl
  have hl : (es.take k).length ≤ es.length := by rw [List.length_take]; omega
  have hk : (es.take k).length ≤ k := by rw [List.length_take]; omega
  obtain ⟨b, o, e, hb, hc⟩ := h (by omega)
  injection e with e
  subst e
  rw [WideShapes.add_plain]
  obtain ⟨c1, c2⟩ := hc (j / 2) (by omega)
  obtain ⟨q1, q2⟩ := pv_at (es.take k) (j / 2) (by omega)
  obtain ⟨t1, t2⟩ := pA_take es k (j / 2) (by omega)
  rcases Nat.mod_two_eq_zero_or_one j with hm | hm
  · have ej : j = j / 2 * 2 := by omega
    rw [← ej] at q1 c1
    rw [q1] at hj
    rw [c1, ← hj, t1]
  · have ej : j = j / 2 * 2 + 1 := by omega
    rw [Nat.add_assoc] at c2
    rw [← ej] at q2 c2
    rw [q2] at hj
    rw [c2, ← hj, t2]
theorem IntsAt.news {w : World} {ad : Addr} {xs : List Int} (h : IntsAt w (some ad) xs) (k : Nat) : ∀ j u, (iv (xs.take k))[j]? = some u → w.cell? (ad.add j) = some u := by
  intro j u hj
  have hjl := (List.getElem?_eq_some_iff.1 hj).1
  rw [iv_len, List.length_take] at hjl
  unfold iv at hj
  obtain ⟨b, o, e, hb, hc⟩ := h (by omega)
  injection e with e
  subst e
  rw [WideShapes.add_plain, hc j (by omega), ← hj, List.getElem?_map, List.getElem?_eq_getElem (by rw [List.length_take]; omega), geti_eq (by omega)]
  simp
theorem own_pairs {w : World} {b n : Nat} {t : TypeId} {v : Value} {ps : List (Int × Int)} (h : w.ownsRow b t 2 v n (pv ps)) : ∃ A c, v = .slice A ps.length c ∧ n = ps.length ∧ ps.length ≤ c ∧ PairsAt w A ps := by
  have hl : ps.length = n := by have := h.1; rw [pv_len] at this; omega
  subst hl
  rcases h.2 with ⟨rfl, h0⟩ | ⟨g, cap, cur, rfl, hb, hg, hc, _, hs, ht⟩
  · exact ⟨none, 0, by rw [h0], rfl, by omega, fun hp => by omega⟩
  · refine ⟨_, cap, rfl, rfl, hc, fun hp => ⟨g, 0, rfl, (Array.getElem?_eq_some_iff.1 hg).1, fun i hi => ?_⟩⟩
    obtain ⟨q1, q2⟩ := pv_at ps i hi
    have hc0 : ∀ j u, (pv ps)[j]? = some u → w.cell? ⟨g, j, none⟩ = some u := fun j u hj => by
      have := h.cells (g := g) rfl j u hj
      rwa [WideShapes.add_plain, Nat.zero_add] at this
    exact ⟨by rw [Nat.zero_add]; exact hc0 _ _ q1, by rw [Nat.zero_add]; exact hc0 _ _ q2⟩
theorem own_intsI {w : World} {b n : Nat} {t : TypeId} {v : Value} {xs : List Int} (h : w.ownsRow b t 1 v n (iv xs)) : ∃ A c, v = .slice A xs.length c ∧ n = xs.length ∧ xs.length ≤ c ∧ IntsAt w A xs := by
  have hl : xs.length = n := by have := h.1; rw [iv_len] at this; omega
  subst hl
  rcases h.2 with ⟨rfl, h0⟩ | ⟨g, cap, cur, rfl, hb, hg, hc, _, hs, ht⟩
  · exact ⟨none, 0, by rw [h0], rfl, by omega, fun hp => by omega⟩
  · refine ⟨_, cap, rfl, rfl, hc, fun hp => ⟨g, 0, rfl, (Array.getElem?_eq_some_iff.1 hg).1, fun i hi => ?_⟩⟩
    have := h.cells (g := g) rfl i (.int .i64 (geti xs i)) (by unfold iv; rw [List.getElem?_map, List.getElem?_eq_getElem hi, geti_eq hi]; rfl)
    rw [WideShapes.add_plain] at this
    exact this
theorem info67k : ((Try.prog.info? 67).map fun i => (i.zero, i.size, i.bytes)) = some (some (.agg #[.int .i64 0, .int .i64 0]), 2, 16) := by kernel_rfl
theorem take_min {α : Type} (xs : List α) (h : xs.length ≤ 130) : xs.take 130 = xs := List.take_of_length_le h
theorem nil_pairs {w : World} {es : List (Int × Int)} (ha : PairsAt w none es) : es = [] := List.eq_nil_of_length_eq_zero (by
  rcases Nat.eq_zero_or_pos es.length with h | h
  · exact h
  · obtain ⟨b, o, e, _⟩ := ha h; cases e)
theorem nil_ints {w : World} {xs : List Int} (ha : IntsAt w none xs) : xs = [] := List.eq_nil_of_length_eq_zero (by
  rcases Nat.eq_zero_or_pos xs.length with h | h
  · exact h
  · obtain ⟨b, o, e, _⟩ := ha h; cases e)
/-- A copy in new memory. -/
def Copied (t z : Nat) (xs : List Value) (w : World) (e : Ending) (w' : World) : Prop := ∃ v n, e = .returned v ∧ w'.ownsRow w.heap.size t z v n xs ∧ Below w.heap.size w w'
theorem edges_any (A : Option Addr) (c : Nat) (es : List (Int × Int)) (w : World) (hx : es.length ≤ c) (hc : c ≤ maxLen) (ha : PairsAt w A es) :
    Calls Try.prog 14 #[.slice A es.length c] w (Copied 67 2 (pv (es.take 130)) w) := by
  obtain ⟨i0, hi, hz0, hz1, hz2⟩ := info_parts info67k
  unfold maxLen at hc
  cases A with
  | none =>
    obtain rfl := nil_pairs ha
    go_enter Try.func14, Try.ntmps14
    go_wp2
    go_ret
    exact ⟨_, 0, rfl, ⟨rfl, .inl ⟨rfl, rfl⟩⟩, Below.refl _ _⟩
  | some ad =>
    have hnew := Lib.hid (ha.news 130)
    have hone := Lib.hid (pv_one (es.take 130))
    by_cases hle : es.length ≤ 130
    · have g1 : decide (130 < (es.length : Int)) = false := decide_eq_false (by omega)
      have hl := Lib.hid (show (es.take 130).length = es.length by rw [List.length_take]; omega)
      go_enter Try.func14, Try.ntmps14
      go_wp2_with (at_builtin; refine wpList_append_own_at _ rfl (.tmp 4) (.tmp 9) 22 rfl w.heap.size 67 i0 _ 2 16 Try.underlying22 hi hz0 hz1 hz2 rfl (by omega) (.slice none 0 0) 0 [] rfl ⟨by simp, .inl ⟨rfl, rfl⟩⟩ ad es.length c (pv (es.take 130)) rfl (by rw [pv_len, hl.out]; try omega) hnew.out hone.out (by unfold maxLen; omega) (by omega) (Nat.le_refl _) ?_; intro v1 w1 hown hg _ _)
      go_ret
      exact ⟨_, _, rfl, hown, (Below.refl _ _).grown hg (Nat.le_refl _) (by simp [Value.ownBlock])⟩
    · have g1 : decide (130 < (es.length : Int)) = true := decide_eq_true (by omega)
      have hl := Lib.hid (show (es.take 130).length = 130 by rw [List.length_take]; omega)
      have hle2 : 130 ≤ c := by omega
      go_enter Try.func14, Try.ntmps14
      go_wp2_with (at_builtin; refine wpList_append_own_at _ rfl (.tmp 4) (.tmp 9) 22 rfl w.heap.size 67 i0 _ 2 16 Try.underlying22 hi hz0 hz1 hz2 rfl (by omega) (.slice none 0 0) 0 [] rfl ⟨by simp, .inl ⟨rfl, rfl⟩⟩ ad 130 c (pv (es.take 130)) rfl (by rw [pv_len, hl.out]; try omega) hnew.out hone.out (by unfold maxLen; omega) (by omega) (Nat.le_refl _) ?_; intro v1 w1 hown hg _ _)
      go_ret
      exact ⟨_, _, rfl, hown, (Below.refl _ _).grown hg (Nat.le_refl _) (by simp [Value.ownBlock])⟩
theorem list_copy_any (A : Option Addr) (c : Nat) (es : List Int) (w : World) (hx : es.length ≤ c) (hc : c ≤ maxLen) (ha : IntsAt w A es) :
    Calls Try.prog 23 #[.slice A es.length c] w (Copied 3 1 (iv (es.take 130)) w) := by
  obtain ⟨i0, hi, hz0, hz1, hz2⟩ := info_parts info3
  unfold maxLen at hc
  cases A with
  | none =>
    obtain rfl := nil_ints ha
    go_enter Try.func23, Try.ntmps23
    go_wp2
    go_ret
    exact ⟨_, 0, rfl, ⟨rfl, .inl ⟨rfl, rfl⟩⟩, Below.refl _ _⟩
  | some ad =>
    have hnew := Lib.hid (ha.news 130)
    have hone := Lib.hid (iv_one (es.take 130))
    by_cases hle : es.length ≤ 130
    · have g1 : decide (130 < (es.length : Int)) = false := decide_eq_false (by omega)
      have hl := Lib.hid (show (es.take 130).length = es.length by rw [List.length_take]; omega)
      go_enter Try.func23, Try.ntmps23
      go_wp2_with (at_builtin; refine wpList_append_own_at _ rfl (.tmp 4) (.tmp 9) 24 rfl w.heap.size 3 i0 _ 1 8 Try.underlying24 hi hz0 hz1 hz2 rfl (by omega) (.slice none 0 0) 0 [] rfl ⟨by simp, .inl ⟨rfl, rfl⟩⟩ ad es.length c (iv (es.take 130)) rfl (by rw [iv_len, hl.out]; try omega) hnew.out hone.out (by unfold maxLen; omega) (by omega) (Nat.le_refl _) ?_; intro v1 w1 hown hg _ _)
      go_ret
      exact ⟨_, _, rfl, hown, (Below.refl _ _).grown hg (Nat.le_refl _) (by simp [Value.ownBlock])⟩
    · have g1 : decide (130 < (es.length : Int)) = true := decide_eq_true (by omega)
      have hl := Lib.hid (show (es.take 130).length = 130 by rw [List.length_take]; omega)
      have hle2 : 130 ≤ c := by omega
      go_enter Try.func23, Try.ntmps23
      go_wp2_with (at_builtin; refine wpList_append_own_at _ rfl (.tmp 4) (.tmp 9) 24 rfl w.heap.size 3 i0 _ 1 8 Try.underlying24 hi hz0 hz1 hz2 rfl (by omega) (.slice none 0 0) 0 [] rfl ⟨by simp, .inl ⟨rfl, rfl⟩⟩ ad 130 c (iv (es.take 130)) rfl (by rw [iv_len, hl.out]; try omega) hnew.out hone.out (by unfold maxLen; omega) (by omega) (Nat.le_refl _) ?_; intro v1 w1 hown hg _ _)
      go_ret
      exact ⟨_, _, rfl, hown, (Below.refl _ _).grown hg (Nat.le_refl _) (by simp [Value.ownBlock])⟩
theorem shares_any (A : Option Addr) (c : Nat) (es : List (Int × Int)) (w : World) (hx : es.length ≤ c) (hc : c ≤ maxLen) (ha : PairsAt w A es) :
    Calls Try.prog 24 #[.slice A es.length c] w (Copied 65 2 (pv (es.take 130)) w) := by
  obtain ⟨i0, hi, hz0, hz1, hz2⟩ := info_parts info65k
  unfold maxLen at hc
  cases A with
  | none =>
    obtain rfl := nil_pairs ha
    go_enter Try.func24, Try.ntmps24
    go_wp2
    go_ret
    exact ⟨_, 0, rfl, ⟨rfl, .inl ⟨rfl, rfl⟩⟩, Below.refl _ _⟩
  | some ad =>
    have hnew := Lib.hid (ha.news 130)
    have hone := Lib.hid (pv_one (es.take 130))
    by_cases hle : es.length ≤ 130
    · have g1 : decide (130 < (es.length : Int)) = false := decide_eq_false (by omega)
      have hl := Lib.hid (show (es.take 130).length = es.length by rw [List.length_take]; omega)
      go_enter Try.func24, Try.ntmps24
      go_wp2_with (at_builtin; refine wpList_append_own_at _ rfl (.tmp 4) (.tmp 9) 27 rfl w.heap.size 65 i0 _ 2 16 Try.underlying27 hi hz0 hz1 hz2 rfl (by omega) (.slice none 0 0) 0 [] rfl ⟨by simp, .inl ⟨rfl, rfl⟩⟩ ad es.length c (pv (es.take 130)) rfl (by rw [pv_len, hl.out]; try omega) hnew.out hone.out (by unfold maxLen; omega) (by omega) (Nat.le_refl _) ?_; intro v1 w1 hown hg _ _)
      go_ret
      exact ⟨_, _, rfl, hown, (Below.refl _ _).grown hg (Nat.le_refl _) (by simp [Value.ownBlock])⟩
    · have g1 : decide (130 < (es.length : Int)) = true := decide_eq_true (by omega)
      have hl := Lib.hid (show (es.take 130).length = 130 by rw [List.length_take]; omega)
      have hle2 : 130 ≤ c := by omega
      go_enter Try.func24, Try.ntmps24
      go_wp2_with (at_builtin; refine wpList_append_own_at _ rfl (.tmp 4) (.tmp 9) 27 rfl w.heap.size 65 i0 _ 2 16 Try.underlying27 hi hz0 hz1 hz2 rfl (by omega) (.slice none 0 0) 0 [] rfl ⟨by simp, .inl ⟨rfl, rfl⟩⟩ ad 130 c (pv (es.take 130)) rfl (by rw [pv_len, hl.out]; try omega) hnew.out hone.out (by unfold maxLen; omega) (by omega) (Nat.le_refl _) ?_; intro v1 w1 hown hg _ _)
      go_ret
      exact ⟨_, _, rfl, hown, (Below.refl _ _).grown hg (Nat.le_refl _) (by simp [Value.ownBlock])⟩
end Go.Proofs.Ytpaeagkgmbhndaa
/- BagsHeights returns true: the walk. -/
namespace Go.Proofs.Ytpaeagkgmbhndaa
open Go.RowKit
set_option maxHeartbeats 1000000
set_option maxRecDepth 100000
/-- A list of the ends of edges, one for each. -/
def HeadsP (es : List (Int × Int)) (hs : List Int) : Prop := hs.length = es.length ∧ ∀ i, i < es.length → geti hs i = pA es i ∨ geti hs i = pB es i
theorem heads_yes {A B : Option Addr} {c d : Nat} {ps : List (Int × Int)} {ys : List Int} {w : World} (hx : ps.length ≤ 1000000) (ha : PairsAt w A ps) (hb : IntsAt w B ys) (h : HeadsP ps ys) :
    Calls Try.prog 28 #[.slice A ps.length c, .slice B ys.length d] w fun e w' => e = .returned (.bool true) ∧ ∃ n, w' = w.drewN n :=
  (heads_any A B c d ps ys w hx ha hb).mono fun _ _ ⟨h1, h2⟩ => ⟨by rw [h1]; exact ret_bool (decide_eq_true h), h2⟩
theorem heads_no {A B : Option Addr} {c d : Nat} {ps : List (Int × Int)} {ys : List Int} {w : World} (hx : ps.length ≤ 1000000) (ha : PairsAt w A ps) (hb : IntsAt w B ys) (h : ¬ HeadsP ps ys) :
    Calls Try.prog 28 #[.slice A ps.length c, .slice B ys.length d] w fun e w' => e = .returned (.bool false) ∧ ∃ n, w' = w.drewN n :=
  (heads_any A B c d ps ys w hx ha hb).mono fun _ _ ⟨h1, h2⟩ => ⟨by rw [h1]; exact ret_bool (decide_eq_false h), h2⟩
theorem Height_no {m : Nat} {A B : Option Addr} {c d : Nat} {es : List (Int × Int)} {gs : List Nat} {hs : List Int} {w : World} (hx : es.length ≤ 1000000) (ha : PairsAt w A es) (hbs : IntsAt w B hs) (h : readF m es = some gs) (hn : ¬ HeadsP es hs) :
    Calls Try.prog 31 #[.int .i64 m, .slice A es.length c, .slice B hs.length d] w fun e w' => e = .returned (.tuple #[.int .i64 0, .int .i64 2]) ∧ Below w.heap.size w w' := by
  by_cases hl : hs.length = es.length
  · refine (Height_some m A B c d es gs hs w hx ha hbs h hl).mono fun e w' ⟨h1, h2⟩ => ⟨?_, h2⟩
    rw [h1]; unfold heightV; rw [if_neg (fun hh => hn ⟨hl, hh⟩)]
  · exact Height_len m A B c d es gs hs w hx ha h hl
theorem Height_yes {m : Nat} {A B : Option Addr} {c d : Nat} {es : List (Int × Int)} {gs : List Nat} {hs : List Int} {w : World} (hx : es.length ≤ 1000000) (ha : PairsAt w A es) (hbs : IntsAt w B hs) (h : readF m es = some gs) (hn : HeadsP es hs) :
    Calls Try.prog 31 #[.int .i64 m, .slice A es.length c, .slice B hs.length d] w fun e w' => e = .returned (.tuple #[.int .i64 (maxTo (natI (cntT hs hs.length)) 16), .int .i64 0]) ∧ Below w.heap.size w w' := by
  refine (Height_some m A B c d es gs hs w hx ha hbs h hn.1).mono fun e w' ⟨h1, h2⟩ => ⟨?_, h2⟩
  rw [h1, heightV_yes hn.2]
theorem HeadsP.bound {m : Nat} {es : List (Int × Int)} {gs : List Nat} {hs : List Int} (h : readF m es = some gs) (hn : HeadsP es hs) : ∀ i, i < hs.length → 0 ≤ geti hs i ∧ geti hs i < m := fun i hi => by
  have h1 := readF_edges h (k := i) (by rw [← hn.1]; exact hi)
  rcases hn.2 i (by rw [← hn.1]; exact hi) with e | e <;> omega
theorem Graph_no {n : Int} {A : Option Addr} {c : Nat} {es : List (Int × Int)} {w : World} (hx : es.length ≤ 1000000) (ha : PairsAt w A es) (h : readF n es = none) :
    Calls Try.prog 16 #[.int .i64 n, .slice A es.length c] w fun e w' => e = .returned (.bool false) ∧ Below w.heap.size w w' :=
  (Graph_any n A c es w hx ha).mono fun _ _ ⟨h1, h2⟩ => ⟨by rw [h1, h]; rfl, h2⟩
theorem Graph_yes {n : Int} {A : Option Addr} {c : Nat} {es : List (Int × Int)} {w : World} {gs : List Nat} (hx : es.length ≤ 1000000) (ha : PairsAt w A es) (h : readF n es = some gs) :
    Calls Try.prog 16 #[.int .i64 n, .slice A es.length c] w fun e w' => e = .returned (.bool true) ∧ Below w.heap.size w w' :=
  (Graph_any n A c es w hx ha).mono fun _ _ ⟨h1, h2⟩ => ⟨by rw [h1, h]; rfl, h2⟩
theorem readF_nat {n : Int} {es : List (Int × Int)} {gs : List Nat} (h : readF n es = some gs) : ∃ m : Nat, n = m := ⟨n.toNat, by have := readF_ok h; omega⟩
theorem BagsHeights_any (n : Int) (A B : Option Addr) (c d : Nat) (es : List (Int × Int)) (hs : List Int) (w : World) (hx : es.length ≤ c) (hc : c ≤ maxLen) (hx2 : hs.length ≤ d) (hd : d ≤ maxLen) (ha : PairsAt w A es) (hb : IntsAt w B hs) :
    Calls Try.prog 6 #[.int .i64 n, .slice A es.length c, .slice B hs.length d] w fun e w' => e = .returned (.bool true) ∧ Below w.heap.size w w' := by
  have HE := Lib.hid (edges_any A c es w hx hc ha)
  have HL := Lib.hid (fun (W : World) (h : Below w.heap.size w W) => list_copy_any B d hs W hx2 hd (hb.below h))
  have hl1 : (es.take 130).length ≤ 130 := by rw [List.length_take]; omega
  have hl2 : (hs.take 130).length ≤ 130 := by rw [List.length_take]; omega
  clear hx hc hx2 hd ha hb
  generalize es.take 130 = own at *
  generalize hs.take 130 = h at *
  rcases hr : readF n own with _ | gs
  · have HR := Lib.hid hr
    clear hr
    go_enter Try.func6, Try.ntmps6
    go_wp2_with (first
      | (go_at_call 14; refine HE.out.mono ?_; rintro e w1 ⟨v1, n1, rfl, o1, b1⟩; obtain ⟨A1, c1, rfl, -, -, p1⟩ := own_pairs o1; clear o1)
      | (go_at_call 23; refine (HL.out _ b1).mono ?_; rintro e w2 ⟨v2, n2, rfl, o2, b2⟩; obtain ⟨A2, c2, rfl, -, -, i2⟩ := own_intsI o2; have p2 := p1.below b2; have b3 := b1.trans (b2.mono b1.size); clear o2 p1 b1 b2)
      | (go_at_call 31; refine (Height_none n A1 A2 c1 c2 own h _ (by omega) p2 HR.out).mono ?_; rintro e w3 ⟨rfl, b4⟩; have p3 := p2.below b4; have b5 := b3.trans (b4.mono b3.size); clear p2 b3 b4)
      | (go_at_call 16; refine (Graph_no (by omega) p3 HR.out).mono ?_; rintro e w4 ⟨rfl, b6⟩; have b7 := b5.trans (b6.mono b5.size); clear p3 b5 b6)
      | (go_at_call 18; refine (awake_any _).mono ?_; rintro e w5 ⟨rfl, b8⟩))
    go_ret
    exact ⟨rfl, b7.trans (b8.mono b7.size)⟩
  · obtain ⟨m, rfl⟩ := readF_nat hr
    have hm16 : m ≤ 16 := by have := readF_ok hr; omega
    have HR := Lib.hid hr
    clear hr
    by_cases hh : HeadsP own h
    · have HH := Lib.hid hh
      clear hh
      have HB := Lib.hid (HH.out.bound HR.out)
      go_enter Try.func6, Try.ntmps6
      go_wp2_with (first
        | (go_at_call 14; refine HE.out.mono ?_; rintro e w1 ⟨v1, n1, rfl, o1, b1⟩; obtain ⟨A1, c1, rfl, -, -, p1⟩ := own_pairs o1; clear o1)
        | (go_at_call 23; refine (HL.out _ b1).mono ?_; rintro e w2 ⟨v2, n2, rfl, o2, b2⟩; obtain ⟨A2, c2, rfl, -, -, i2⟩ := own_intsI o2; have p2 := p1.below b2; have b3 := b1.trans (b2.mono b1.size); clear o2 p1 b1 b2)
        | (go_at_call 31; refine (Height_yes (c := c1) (d := c2) (by omega) p2 i2 HR.out HH.out).mono ?_; rintro e w3 ⟨rfl, b4⟩; have p3 := p2.below b4; have i3 := i2.below b4; have b5 := b3.trans (b4.mono b3.size); clear p2 i2 b3 b4)
        | (go_at_call 16; refine (Graph_yes (by omega) p3 HR.out).mono ?_; rintro e w4 ⟨rfl, b6⟩; have p4 := p3.below b6; have i4 := i3.below b6; have b7 := b5.trans (b6.mono b5.size); clear p3 i3 b5 b6)
        | (go_at_call 28; refine (heads_yes (by omega) p4 i4 HH.out).mono ?_; rintro e w5 ⟨rfl, nq, rfl⟩; have i5 := i4.drewN nq; have b9 := b7.trans (below_drewN nq); clear p4 i4 b7)
        | (go_at_call 29; refine (RefHeight_any m A2 c2 h _ hm16 (by omega) i5 HB.out).mono ?_; rintro e w6 ⟨rfl, b10⟩; have b11 := b9.trans (b10.mono b9.size); clear i5 b9 b10)
        | (go_at_call 18; refine (awake_any _).mono ?_; rintro e w7 ⟨rfl, b8⟩))
      go_ret
      exact ⟨rfl, b11.trans (b8.mono b11.size)⟩
    · have HH := Lib.hid hh
      clear hh
      go_enter Try.func6, Try.ntmps6
      go_wp2_with (first
        | (go_at_call 14; refine HE.out.mono ?_; rintro e w1 ⟨v1, n1, rfl, o1, b1⟩; obtain ⟨A1, c1, rfl, -, -, p1⟩ := own_pairs o1; clear o1)
        | (go_at_call 23; refine (HL.out _ b1).mono ?_; rintro e w2 ⟨v2, n2, rfl, o2, b2⟩; obtain ⟨A2, c2, rfl, -, -, i2⟩ := own_intsI o2; have p2 := p1.below b2; have b3 := b1.trans (b2.mono b1.size); clear o2 p1 b1 b2)
        | (go_at_call 31; refine (Height_no (c := c1) (d := c2) (by omega) p2 i2 HR.out HH.out).mono ?_; rintro e w3 ⟨rfl, b4⟩; have p3 := p2.below b4; have i3 := i2.below b4; have b5 := b3.trans (b4.mono b3.size); clear p2 i2 b3 b4)
        | (go_at_call 16; refine (Graph_yes (by omega) p3 HR.out).mono ?_; rintro e w4 ⟨rfl, b6⟩; have p4 := p3.below b6; have i4 := i3.below b6; have b7 := b5.trans (b6.mono b5.size); clear p3 i3 b5 b6)
        | (go_at_call 28; refine (heads_no (by omega) p4 i4 HH.out).mono ?_; rintro e w5 ⟨rfl, nq, rfl⟩; have b9 := b7.trans (below_drewN nq); clear p4 i4 b7)
        | (go_at_call 18; refine (awake_any _).mono ?_; rintro e w7 ⟨rfl, b8⟩))
      go_ret
      exact ⟨rfl, b9.trans (b8.mono b9.size)⟩
end Go.Proofs.Ytpaeagkgmbhndaa
/- From a walk to the row: what every statement of this seat shares. -/
namespace Go.Proofs.Ytpaeagkgmbhndaa
open Go.ChangeShapes Go.WideShapes Go.ChangeAt Go.RowKit
set_option maxRecDepth 100000
theorem Try.own : ownKnob Try.prog.godebug = none := by kernel_rfl
theorem Try.laidOut : laidOutB Try.prog = true := by kernel_rfl
theorem Try.cells3 : Try.prog.cellsOf 3 = 1 := by kernel_rfl
theorem cell_lt {w : World} {a : Addr} {v : Value} (h : w.cell? a = some v) : a.block < w.heap.size := by
  rcases Nat.lt_or_ge a.block w.heap.size with h1 | h1
  · exact h1
  · have : w.heap[a.block]? = none := Array.getElem?_eq_none h1
    simp [World.cell?, this] at h
section
variable {H : Type} {enc : TypeId × Value → H} {P : Program} {W W' : World}
/-- Arguments read behind the call as they read before. -/
theorem trodAll_stays (hl : laidOutB P = true) {sp : Nat → Bool} : ∀ {ts : List TypeId} {vs : List Value} {ds : List (DataW H)} {ps : List MemPlace}, (∀ t ∈ ts, P.readableRec t = true ∧ t < P.types.size) →
    DataW.TrodAll enc P W 0 (fun _ => true) true ts vs ds ps → (∀ p ∈ ps, W.sameAt W' p) → (∀ p ∈ ps, sp p.block = true) → DataW.TrodAll enc P W' 0 sp true ts vs ds ps
  | [], _, _, _, _, h, _, _ => by
    obtain ⟨rfl, rfl, rfl⟩ := trodAll_nil h
    exact h
  | t :: ts, _, _, _, ht, h, h1, h2 => by
    obtain ⟨v, vs1, d, ds1, a, b, rfl, rfl, rfl, k1, k2⟩ := trodAll_cons h
    exact ⟨a, b, WideElems.Trod_stays hl (ht t (List.mem_cons_self ..)).1 (ht t (List.mem_cons_self ..)).2 k1 (fun p hp => h1 p (List.mem_append_left _ hp)) (fun p hp => h2 p (List.mem_append_left _ hp)),
      trodAll_stays hl (fun u hu => ht u (List.mem_cons_of_mem _ hu)) k2 (fun p hp => h1 p (List.mem_append_right _ hp)) (fun p hp => h2 p (List.mem_append_right _ hp)), rfl⟩
/-- A law's last step: it returned true, and below the old heap nothing has turned. -/
theorem law_post {f : Func} {s : ChangeSpec} {args : Array Value} {ds gs : List (DataW H)} {before : List MemPlace} {tb : TypeId} (hl : laidOutB P = true) (hb4 : P.underlying tb = some .bool) (hr : f.resultTypes = #[tb]) (hv : s.vars = [])
    (ht : ∀ t ∈ f.params.toList, P.readableRec t = true ∧ t < P.types.size) (hW : DataW.Whole enc P f.params.toList s.vars false W args.toList ds gs before)
    (e1 : (s.fn H (ds ++ gs)).results = [.lit (.bool true)]) (e2 : (s.fn H (ds ++ gs)).args = ds) (e3 : (s.fn H (ds ++ gs)).vars = []) (hb : Below W.heap.size W W') : s.post enc P f false true false false W args (.bool true) W' := by
  have hlt : ∀ p ∈ before, p.block < W.heap.size := fun p hp => hW.lt p hp
  have hW' := hW
  obtain ⟨p, q, hA, hV, rfl, _, _⟩ := hW
  rw [hv] at hV
  obtain ⟨rfl, rfl⟩ := trodVars_none hV
  refine ⟨ds, [], _, [], p, [], hW', ?_, ?_, ?_, World.keptBut_mono (fun x hx => ⟨hx, .inr (.inl ?_)⟩) (hb.frame (· ∈ p ++ [])), fun h => by cases h⟩
  · rw [e1, hr]; exact trodAll_mk1 (shut_bool hb4 true)
  · rw [e2]; exact trodAll_stays hl ht hA (fun x hx => hb.same (hlt x (by simpa using hx))) (fun x hx => by simpa using hlt x (by simpa using hx))
  · rw [e3, hv]; exact rfl
  · simpa using hx
end
section
variable {H : Type} {enc : TypeId × Value → H} {W : World}
theorem open_list {t : TypeId} {r : Reach} {b0 : Nat} {v : Value} {d : DataW H} {p : List MemPlace} (ht : Try.prog.underlying t = some (.slice 3)) (hv : Value.okWide Try.prog W r b0 t v) (h : DataW.Trod enc Try.prog W 0 (fun _ => true) true t v d p) :
    ∃ A c xs, v = .slice A xs.length c ∧ xs.length ≤ c ∧ c ≤ maxLen ∧ IntsAt W A xs := by
  obtain ⟨A, l, c, rfl⟩ := okWide_slice ht hv
  obtain ⟨fuel, hf⟩ := h
  rcases open_ints ht Try.underlying3 Try.cells3 hf with ⟨hcs, _⟩ | ⟨a, len, cap, zs, hcs, _, hl, hm, hz, _, hcell, _⟩
  · simp [Value.cells] at hcs
    obtain ⟨rfl, rfl, rfl⟩ := hcs
    exact ⟨none, 0, [], rfl, by simp, by simp, fun h => absurd h (by simp)⟩
  · simp [Value.cells] at hcs
    obtain ⟨rfl, rfl, rfl⟩ := hcs
    simp only [if_true] at hz
    have hlen : (zs.take l).length = l := by rw [List.length_take]; omega
    refine ⟨some a, c, zs.take l, by rw [hlen], by omega, hm, fun hp => ?_⟩
    rw [hlen] at hp ⊢
    have g0 := hcell 0 (by omega)
    have hsp : a.spot = none := by
      have := World.cell?_spot g0
      simpa [Addr.add] using this
    obtain ⟨b, o, sp⟩ := a
    dsimp only at hsp
    subst hsp
    refine ⟨b, o, rfl, by have := cell_lt g0; simpa [Addr.add] using this, fun i hi => ?_⟩
    have := hcell i (by omega)
    rw [WideShapes.add_plain] at this
    rw [this, geti_take _ _ _ hi]; rfl
theorem open_pairs {t e : TypeId} {f0 f1 : Field} {r : Reach} {b0 : Nat} {v : Value} {d : DataW H} {p : List MemPlace} (ht : Try.prog.underlying t = some (.slice e)) (he : Try.prog.underlying e = some (.struct #[f0, f1])) (ce : Try.prog.cellsOf e = 2)
    (o0 : f0.offset = 0) (o1 : f1.offset = 1) (t0 : f0.type = 3) (t1 : f1.type = 3) (hv : Value.okWide Try.prog W r b0 t v) (h : DataW.Trod enc Try.prog W 0 (fun _ => true) true t v d p) :
    ∃ A c es, v = .slice A es.length c ∧ es.length ≤ c ∧ c ≤ maxLen ∧ PairsAt W A es := by
  obtain ⟨A, l, c, rfl⟩ := okWide_slice ht hv
  obtain ⟨fuel, hf⟩ := h
  rcases Deep.open_slice_pairs ht he ce o0 o1 (by rw [t0]; exact Try.cells3) (by rw [t1]; exact Try.cells3) hf with ⟨hcs, _⟩ | ⟨a, len, cap, m, n, V0, V1, D0, D1, P0, P1, hcs, _, hl, hm, hz, _, hcell⟩
  · simp [Value.cells] at hcs
    obtain ⟨rfl, rfl, rfl⟩ := hcs
    exact ⟨none, 0, [], rfl, by simp, by simp, fun h => absurd h (by simp)⟩
  · simp [Value.cells] at hcs
    obtain ⟨rfl, rfl, rfl⟩ := hcs
    simp only [if_true] at hz
    subst hz
    have num : ∀ {x : Value} {y : DataW H × List MemPlace}, DataW.trod enc Try.prog W 0 (fun _ => true) true n 3 [x] = some y → ∃ k : Int, x = .int .i64 k := fun hx => by
      obtain ⟨k, hk, _⟩ := DataW.trod_int Try.underlying3 hx
      injection hk with hk
      exact ⟨k, hk⟩
    have hk : ∀ i, ∃ q : Int × Int, i < m → V0 i = .int .i64 q.1 ∧ V1 i = .int .i64 q.2 := fun i => by
      by_cases hi : i < m
      · obtain ⟨_, _, h3, h4⟩ := hcell i hi
        rw [t0] at h3
        rw [t1] at h4
        obtain ⟨x, hx⟩ := num h3
        obtain ⟨y, hy⟩ := num h4
        exact ⟨(x, y), fun _ => ⟨hx, hy⟩⟩
      · exact ⟨(0, 0), fun h => absurd h hi⟩
    obtain ⟨Q, hQ⟩ := Classical.axiomOfChoice hk
    have hlen : ((List.range l).map Q).length = l := by simp
    refine ⟨some a, m, (List.range l).map Q, by rw [hlen], by omega, hm, fun hp => ?_⟩
    rw [hlen] at hp ⊢
    have g0 := (hcell 0 (by omega)).1
    have hsp : a.spot = none := by
      have := World.cell?_spot g0
      simpa [Addr.add] using this
    obtain ⟨b, o, sp⟩ := a
    dsimp only at hsp
    subst hsp
    refine ⟨b, o, rfl, by have := cell_lt g0; simpa [Addr.add] using this, fun i hi => ?_⟩
    obtain ⟨c1, c2, _, _⟩ := hcell i (by omega)
    obtain ⟨q1, q2⟩ := hQ i (by omega)
    rw [WideShapes.add_plain] at c1 c2
    have ep : ((List.range l).map Q).getD i (0, 0) = Q i := by
      rw [List.getD_eq_getElem?_getD, List.getElem?_map, List.getElem?_range hi]; rfl
    unfold pA pB
    rw [ep]
    exact ⟨by rw [c1, q1], by rw [Nat.add_assoc, c2, q2]⟩
end
end Go.Proofs.Ytpaeagkgmbhndaa
