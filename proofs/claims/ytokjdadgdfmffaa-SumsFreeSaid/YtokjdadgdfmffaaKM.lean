/- Part, Exactly. -/
import Derived.Test.YtokjdadgdfmffaaKL
namespace Go.Proofs.Ytokjdadgdfmffaa
open Go.RowKit
set_option maxHeartbeats 1000000
set_option maxRecDepth 100000
theorem Part_bad (A B C : Option Addr) (c d s : Nat) (g xs : List Int) (L : List (List Int)) (w : World) (hl : g.length ≤ 1000000) (hl1 : L.length ≤ 1000000) (hl2 : ∀ i, i < L.length → (getl L i).length ≤ 1000000) (ha : IntsAt w A g) (hb : RowsAt w B L)
    (hv : grV g = false ∨ ∃ m n, IsG g m n ∧ rlV m n L = false) : Calls Try.prog 17 #[.slice A g.length c, .slice B L.length d, .slice C xs.length s] w (NoneR w 2) := by
  have HH := Lib.hid (readBoth_no A B c d g L w hl hl1 hl2 ha hb hv)
  clear hl2 ha hb hv
  go_enter Try.func17, Try.ntmps17
  go_wp2_with (go_at_call 47; fail)
  refine HH.out.mono ?_
  rintro e w1 ⟨x, y, rfl, hb⟩
  go_wp2
  go_ret2
  exact ⟨rfl, hb.alloc hb.size _⟩
theorem Part_el (A B C : Option Addr) (c d s m n : Nat) (g xs : List Int) (L : List (List Int)) (w : World) (hg : IsG g m n) (hl2 : ∀ i, i < L.length → (getl L i).length ≤ 1000000) (hx : xs.length ≤ 1000000) (ha : IntsAt w A g) (hb : RowsAt w B L) (hC : IntsAt w C xs) (hv : rlV m n L = true) (he : elV m n xs = false) :
    Calls Try.prog 17 #[.slice A g.length c, .slice B L.length d, .slice C xs.length s] w (NoneR w 2) := by
  have HH := Lib.hid (readBoth_yes A B c d m n g L w hg hl2 ha hb hv)
  have HG := Lib.hid hg.1
  have HV := Lib.hid he
  have HC := Lib.hid hC
  clear hl2 ha hb hv hg he hC
  go_enter Try.func17, Try.ntmps17
  go_wp2_with (go_at_call 47; fail)
  refine HH.out.mono ?_
  rintro e w1 ⟨v, rfl, ⟨g8, rfl, hg8, q8⟩, hb⟩
  have b9 := hb.alloc hb.size (.cells #[.int .i64 m, .int .i64 n] 63)
  clear hb q8
  go_wp2_with (go_at_call 50; with_reducible refine (readEl_no C s m n xs _ HG.out hx (HC.out.below b9) HV.out).mono ?_; rintro e w2 ⟨rfl, hb2⟩; have b2 := (b9.trans (hb2.mono b9.size)).alloc (Nat.le_trans b9.size hb2.size) (.cells #[.int .i64 (elA m xs), .int .i64 (elB m xs)] 69))
  go_ret2
  exact ⟨rfl, b2⟩
theorem Part_zero (A B C : Option Addr) (c d s m n : Nat) (g xs : List Int) (L : List (List Int)) (w : World) (hg : IsG g m n) (hl2 : ∀ i, i < L.length → (getl L i).length ≤ 1000000) (hx : xs.length ≤ 1000000) (ha : IntsAt w A g) (hb : RowsAt w B L) (hC : IntsAt w C xs) (hv : rlV m n L = true) (he : elV m n xs = true) (h0 : elA m xs = 0 ∧ elB m xs = 0) :
    Calls Try.prog 17 #[.slice A g.length c, .slice B L.length d, .slice C xs.length s] w (NoneR w 0) := by
  have HH := Lib.hid (readBoth_yes A B c d m n g L w hg hl2 ha hb hv)
  have HG := Lib.hid hg.1
  have HR := Lib.hid (fun w hw => readEl_yes C s m n xs w hg.1 hx hw he)
  have hq := eq69_yes h0
  have HC := Lib.hid hC
  clear hl2 ha hb hv hg he hC h0
  generalize elA m xs = x at *
  generalize elB m xs = y at *
  go_enter Try.func17, Try.ntmps17
  go_wp2_with (go_at_call 47; fail)
  refine HH.out.mono ?_
  rintro e w1 ⟨v, rfl, ⟨g8, rfl, hg8, q8⟩, hb⟩
  have b9 := hb.alloc hb.size (.cells #[.int .i64 m, .int .i64 n] 63)
  clear hb q8
  go_wp2_with (go_at_call 50; with_reducible refine (HR.out _ (HC.out.below b9)).mono ?_; rintro e w2 ⟨rfl, hb2⟩; have b2 := (b9.trans (hb2.mono b9.size)).alloc (Nat.le_trans b9.size hb2.size) (.cells #[.int .i64 x, .int .i64 y] 69))
  go_ret2
  exact ⟨rfl, b2⟩
theorem Part_go (A B C : Option Addr) (c d s m n : Nat) (g xs : List Int) (L : List (List Int)) (w : World) (hg : IsG g m n) (hl2 : ∀ i, i < L.length → (getl L i).length ≤ 1000000) (hx : xs.length ≤ 1000000) (ha : IntsAt w A g) (hb : RowsAt w B L) (hC : IntsAt w C xs) (hv : rlV m n L = true) (he : elV m n xs = true) (h0 : ¬ (elA m xs = 0 ∧ elB m xs = 0)) :
    Calls Try.prog 17 #[.slice A g.length c, .slice B L.length d, .slice C xs.length s] w (fun e w' => (zrL m n L (elA m xs) (elB m xs) = [] → NoneR w 6 e w') ∧ (0 < (zrL m n L (elA m xs) (elB m xs)).length → SomeR w (zrL m n L (elA m xs) (elB m xs)) e w')) := by
  have HH := Lib.hid (readBoth_yes A B c d m n g L w hg hl2 ha hb hv)
  have HG := Lib.hid hg.1
  have HR := Lib.hid (fun w hw => readEl_yes C s m n xs w hg.1 hx hw he)
  obtain ⟨h60, hel⟩ := rlV_el hg.1 hv
  have HEL := Lib.hid hel
  have HE := Lib.hid (elV_el hg.1 he)
  have hq := eq69_no h0
  have HC := Lib.hid hC
  clear hl2 ha hb hv hg he hC h0 hel
  generalize elA m xs = x at *
  generalize elB m xs = y at *
  have hzl : (zrL m n L x y).length ≤ (rlE m L).length := shF_len _ _ _ _ _ _
  go_enter Try.func17, Try.ntmps17
  go_wp2_with (go_at_call 47; fail)
  refine HH.out.mono ?_
  rintro e w1 ⟨v, rfl, ⟨g8, rfl, hg8, q8⟩, hb⟩
  have b9 := hb.alloc hb.size (.cells #[.int .i64 m, .int .i64 n] 63)
  have q9 := q8.alloc (.cells #[.int .i64 m, .int .i64 n] 63)
  have q0 : Row (w1.alloc (.cells #[.int .i64 m, .int .i64 n] 63)) w1.heap.size 63 [.int .i64 m, .int .i64 n] := row_new rfl
  clear hb q8
  go_wp2_with (first
    | (go_at_call 50; with_reducible refine (HR.out _ (HC.out.below b9)).mono ?_; rintro e w2 ⟨rfl, hb2⟩; have b2 := (b9.trans (hb2.mono b9.size)).alloc (Nat.le_trans b9.size hb2.size) (.cells #[.int .i64 x, .int .i64 y] 69); have p9 := (q9.below hb2).alloc (.cells #[.int .i64 x, .int .i64 y] 69); have p0 := (q0.below hb2).alloc (.cells #[.int .i64 x, .int .i64 y] 69); obtain ⟨⟨c1, c2⟩, -⟩ := p0.cells2)
    | (go_at_call 49; fail))
  refine (shortest_any m n g8 (rlE m L) x y _ HG.out HEL.out h60 HE.out p9).mono ?_
  rintro e w3 ⟨v, rfl, hp, hb3⟩
  have b3 := b2.trans (hb3.mono b2.size)
  change PartV w3 v (zrL m n L x y) at hp
  rcases hp with ⟨h1, rfl⟩ | ⟨h1, b, o, c2, rfl, hi⟩
  · go_wp2_with (go_at_call 48; refine (found_nil _).mono ?_; rintro e w4 ⟨rfl, rfl⟩)
    go_ret2
    exact ⟨fun _ => ⟨rfl, b3⟩, fun h => absurd h (by rw [h1]; simp)⟩
  · go_wp2_with (go_at_call 48; refine (found_some _ _ _ _ ?_ h1).mono ?_; exact Nat.le_trans hzl (Nat.le_trans h60 (by omega)); rintro e w4 ⟨rfl, rfl⟩)
    go_ret2
    exact ⟨fun h => absurd h1 (by rw [h]; simp), fun _ => ⟨b, o, c2, rfl, hi, b3⟩⟩
/-! Exactly. -/
def exE (n : Nat) (xs : List Int) : List (Int × Int) := xs.map fun x => ((1 : Int) % n, x % n)
def exL (n : Nat) (xs : List Int) : List Int := shF n n 0 (exE n xs) 0 0
theorem exE_at (n : Nat) (xs : List Int) {k : Nat} (h : k < xs.length) (h2 : k < (exE n xs).length) : (exE n xs)[k] = ((1 : Int) % n, geti xs k % n) := by
  have h3 : (exE n xs)[k]? = some ((1 : Int) % n, geti xs k % n) := by
    unfold exE
    rw [List.getElem?_map, List.getElem?_eq_getElem h, geti_eq h]; rfl
  rw [List.getElem?_eq_getElem h2] at h3
  injection h3
theorem Exactly_bad (n : Int) (A : Option Addr) (c : Nat) (xs : List Int) (w : World) (_hl : xs.length ≤ 1000000) (hv : n < 1 ∨ 20 < n ∨ (xs.length : Int) ≠ 2 * n - 1) :
    Calls Try.prog 33 #[.int .i64 n, .slice A xs.length c] w (NoneR w 2) := by
  by_cases h1 : n < 1
  · have g1 : decide (n < 1) = true := decide_eq_true h1
    clear hv h1
    go_enter Try.func33, Try.ntmps33
    go_wp2
    go_ret2
    exact ⟨rfl, Below.refl _ _⟩
  · have g1 : decide (n < 1) = false := decide_eq_false h1
    by_cases h2 : 20 < n
    · have g2 : decide (20 < n) = true := decide_eq_true h2
      clear hv h1 h2
      go_enter Try.func33, Try.ntmps33
      go_wp2
      go_ret2
      exact ⟨rfl, Below.refl _ _⟩
    · have g2 : decide (20 < n) = false := decide_eq_false h2
      have g3 : ((xs.length : Int) != 2 * n - 1) = true := by simp; omega
      have b1 : 1 ≤ n := by omega
      have b2 : n ≤ 20 := by omega
      clear hv h1 h2
      go_enter Try.func33, Try.ntmps33
      go_wp2
      go_ret2
      exact ⟨rfl, Below.refl _ _⟩
end Go.Proofs.Ytokjdadgdfmffaa
