/- Zero, Part, Bound, Order. -/
import Derived.Test.YtokjdadgdfmffaaKK
namespace Go.Proofs.Ytokjdadgdfmffaa
open Go.RowKit
set_option maxHeartbeats 1000000
set_option maxRecDepth 100000
theorem found_nil (w : World) : Calls Try.prog 48 #[.slice none 0 0] w fun e w' => e = .returned (.tuple #[.slice none 0 0, .int .i64 6]) ∧ w = w' := by
  go_enter Try.func48, Try.ntmps48
  go_wp2
  go_ret2
  exact ⟨rfl, rfl⟩
theorem found_some (A : Option Addr) (n c : Nat) (w : World) (hn : n ≤ 1000000) (h : 0 < n) : Calls Try.prog 48 #[.slice A n c] w fun e w' => e = .returned (.tuple #[.slice A n c, .int .i64 0]) ∧ w = w' := by
  have g : ((n : Int) == 0) = false := by simp; omega
  go_enter Try.func48, Try.ntmps48
  go_wp2
  go_ret2
  exact ⟨rfl, rfl⟩
/-- The parts that are found. -/
def zrL (m n : Nat) (L : List (List Int)) (a b : Int) : List Int := shF m n 0 (rlE m L) a b
def SomeR (w : World) (xs : List Int) (e : Ending) (w' : World) : Prop := ∃ b o c, e = .returned (.tuple #[.slice (some ⟨b, o, none⟩) xs.length c, .int .i64 0]) ∧ IntsAt w' (some ⟨b, o, none⟩) xs ∧ Below w.heap.size w w'
def NoneR (w : World) (k : Int) (e : Ending) (w' : World) : Prop := e = .returned (.tuple #[.slice none 0 0, .int .i64 k]) ∧ Below w.heap.size w w'
theorem el_zero {m n : Nat} (h : Gr m n) : El m n 0 0 := by obtain ⟨h1, h2, h3, h4⟩ := h; exact ⟨by omega, by omega, by omega, by omega⟩
theorem rlV_el {m n : Nat} {L : List (List Int)} (hg : Gr m n) (hv : rlV m n L = true) : (rlE m L).length ≤ 60 ∧ ∀ i (h : i < (rlE m L).length), El m n (rlE m L)[i].1 (rlE m L)[i].2 := by
  obtain ⟨h1, h2⟩ := of_decide_eq_true hv
  have hl : (rlE m L).length = L.length := by simp [rlE]
  refine ⟨by omega, fun i h => ?_⟩
  rw [rlE_at m L (by omega) h]
  have h3 := h2 i (by omega)
  obtain ⟨g1, g2, g3, g4⟩ := hg
  generalize getl L i = xs at *
  match xs, h3 with
  | [y], h3 =>
    have h3' : m = 1 ∧ 0 ≤ y ∧ y < n := of_decide_eq_true h3
    obtain ⟨rfl, h5, h6⟩ := h3'
    exact ⟨by simp [elA], by simp [elA], by simpa [elB] using h5, by simpa [elB] using h6⟩
  | [x, y], h3 =>
    have h3' : m ≠ 1 ∧ (0 ≤ x ∧ x < m) ∧ 0 ≤ y ∧ y < n := of_decide_eq_true h3
    obtain ⟨h4, ⟨h5, h6⟩, h7, h8⟩ := h3'
    exact ⟨by simpa [elA, h4] using h5, by simpa [elA, h4] using h6, by simpa [elB, h4] using h7, by simpa [elB, h4] using h8⟩
theorem readBoth_no (A B : Option Addr) (c d : Nat) (g : List Int) (L : List (List Int)) (w : World) (hl : g.length ≤ 1000000) (hl1 : L.length ≤ 1000000) (hl2 : ∀ i, i < L.length → (getl L i).length ≤ 1000000) (ha : IntsAt w A g) (hb : RowsAt w B L)
    (hv : grV g = false ∨ ∃ m n, IsG g m n ∧ rlV m n L = false) : Calls Try.prog 47 #[.slice A g.length c, .slice B L.length d] w (BothNo w) := by
  rcases hv with hv | ⟨m, n, hg, hv⟩
  · exact readBoth_g A B c d g L w hl hv ha
  · exact readBoth_l A B c d m n g L w hg hl1 hl2 ha hb hv
theorem Zero_bad (A B : Option Addr) (c d : Nat) (g : List Int) (L : List (List Int)) (w : World) (hl : g.length ≤ 1000000) (hl1 : L.length ≤ 1000000) (hl2 : ∀ i, i < L.length → (getl L i).length ≤ 1000000) (ha : IntsAt w A g) (hb : RowsAt w B L)
    (hv : grV g = false ∨ ∃ m n, IsG g m n ∧ rlV m n L = false) : Calls Try.prog 16 #[.slice A g.length c, .slice B L.length d] w (NoneR w 2) := by
  have HH := Lib.hid (readBoth_no A B c d g L w hl hl1 hl2 ha hb hv)
  clear hl2 ha hb hv
  go_enter Try.func16, Try.ntmps16
  go_wp2_with (go_at_call 47; fail)
  refine HH.out.mono ?_
  rintro e w1 ⟨x, y, rfl, hb⟩
  go_wp2
  go_ret2
  exact ⟨rfl, hb.alloc hb.size _⟩
theorem Zero_none (A B : Option Addr) (c d m n : Nat) (g : List Int) (L : List (List Int)) (w : World) (hg : IsG g m n) (hl2 : ∀ i, i < L.length → (getl L i).length ≤ 1000000) (ha : IntsAt w A g) (hb : RowsAt w B L) (hv : rlV m n L = true) (hz : zrL m n L 0 0 = []) :
    Calls Try.prog 16 #[.slice A g.length c, .slice B L.length d] w (NoneR w 6) := by
  have HH := Lib.hid (readBoth_yes A B c d m n g L w hg hl2 ha hb hv)
  obtain ⟨h60, hel⟩ := rlV_el hg.1 hv
  have HEL := Lib.hid hel
  have HG := Lib.hid hg.1
  have HZ := Lib.hid hz
  clear hl2 ha hb hv hel hg hz
  go_enter Try.func16, Try.ntmps16
  go_wp2_with (go_at_call 47; fail)
  refine HH.out.mono ?_
  rintro e w1 ⟨v, rfl, ⟨g8, rfl, hg8, q8⟩, hb⟩
  have q9 := q8.alloc (.cells #[.int .i64 m, .int .i64 n] 63)
  have b9 := hb.alloc hb.size (.cells #[.int .i64 m, .int .i64 n] 63)
  have HS := Lib.hid (shortest_any m n g8 (rlE m L) 0 0 _ HG.out HEL.out h60 (el_zero HG.out) q9)
  clear q8 hb q9
  go_wp2_with (go_at_call 49; fail)
  refine HS.out.mono ?_
  rintro e w2 ⟨v, rfl, hp, hb2⟩
  have b2 := b9.trans (hb2.mono b9.size)
  rcases hp with ⟨_, rfl⟩ | ⟨h0, _⟩
  · go_wp2_with (go_at_call 48; refine (found_nil _).mono ?_; rintro e w3 ⟨rfl, rfl⟩)
    go_ret2
    exact ⟨rfl, b2⟩
  · have := HZ.out
    unfold zrL at this
    rw [this] at h0
    exact absurd h0 (by simp)
theorem Zero_some (A B : Option Addr) (c d m n : Nat) (g : List Int) (L : List (List Int)) (w : World) (hg : IsG g m n) (hl2 : ∀ i, i < L.length → (getl L i).length ≤ 1000000) (ha : IntsAt w A g) (hb : RowsAt w B L) (hv : rlV m n L = true) (hz : 0 < (zrL m n L 0 0).length) :
    Calls Try.prog 16 #[.slice A g.length c, .slice B L.length d] w (SomeR w (zrL m n L 0 0)) := by
  have HH := Lib.hid (readBoth_yes A B c d m n g L w hg hl2 ha hb hv)
  obtain ⟨h60, hel⟩ := rlV_el hg.1 hv
  have hzl : (zrL m n L 0 0).length ≤ (rlE m L).length := shF_len _ _ _ _ _ _
  have HEL := Lib.hid hel
  have HG := Lib.hid hg.1
  clear hl2 ha hb hv hel hg
  go_enter Try.func16, Try.ntmps16
  go_wp2_with (go_at_call 47; fail)
  refine HH.out.mono ?_
  rintro e w1 ⟨v, rfl, ⟨g8, rfl, hg8, q8⟩, hb⟩
  have q9 := q8.alloc (.cells #[.int .i64 m, .int .i64 n] 63)
  have b9 := hb.alloc hb.size (.cells #[.int .i64 m, .int .i64 n] 63)
  have HS := Lib.hid (shortest_any m n g8 (rlE m L) 0 0 _ HG.out HEL.out h60 (el_zero HG.out) q9)
  clear q8 hb q9
  go_wp2_with (go_at_call 49; fail)
  refine HS.out.mono ?_
  rintro e w2 ⟨v, rfl, hp, hb2⟩
  have b2 := b9.trans (hb2.mono b9.size)
  rcases hp with ⟨h0, _⟩ | ⟨h0, b, o, c2, rfl, hi⟩
  · change zrL m n L 0 0 = [] at h0
    rw [h0] at hz
    exact absurd hz (by simp)
  · change IntsAt w2 (some ⟨b, o, none⟩) (zrL m n L 0 0) at hi
    go_wp2_with (go_at_call 48; refine (found_some _ _ _ _ ?_ h0).mono ?_; exact Nat.le_trans hzl (Nat.le_trans h60 (by omega)); rintro e w3 ⟨rfl, rfl⟩)
    go_ret2
    exact ⟨b, o, c2, rfl, hi, b2⟩
theorem Bound_yes (A : Option Addr) (c m n : Nat) (g : List Int) (w : World) (hg : IsG g m n) (ha : IntsAt w A g) :
    Calls Try.prog 25 #[.slice A g.length c] w fun e w' => e = .returned (.tuple #[.int .i64 ((m : Int) + n - 1), .int .i64 0]) ∧ Below w.heap.size w w' := by
  have HH := Lib.hid (readGroup_yes A c g m n w hg ha)
  have HG := Lib.hid hg.1
  clear hg ha
  go_enter Try.func25, Try.ntmps25
  go_wp2_with (first | (go_at_call 53; refine HH.out.mono ?_; rintro e w1 ⟨rfl, hb⟩; have b9 := hb.alloc hb.size (.cells #[.int .i64 m, .int .i64 n] 63)) | (go_at_call 54; refine (bound_any m n _ HG.out).mono ?_; rintro e w2 ⟨rfl, hb2⟩; have b2 := b9.trans (hb2.mono b9.size)))
  go_ret2
  exact ⟨rfl, b2⟩
theorem Bound_no (A : Option Addr) (c : Nat) (g : List Int) (w : World) (hl : g.length ≤ 1000000) (hv : grV g = false) (ha : IntsAt w A g) :
    Calls Try.prog 25 #[.slice A g.length c] w fun e w' => e = .returned (.tuple #[.int .i64 0, .int .i64 2]) ∧ Below w.heap.size w w' := by
  have HH := Lib.hid (readGroup_no A c g w hl hv ha)
  clear hv ha
  go_enter Try.func25, Try.ntmps25
  go_wp2_with (first | (go_at_call 53; refine HH.out.mono ?_; rintro e w1 ⟨rfl, hb⟩))
  go_ret2
  exact ⟨rfl, hb.alloc hb.size _⟩
/-- Is it an element, and which? -/
theorem elV_el {m n : Nat} {xs : List Int} (hg : Gr m n) (h : elV m n xs = true) : El m n (elA m xs) (elB m xs) := by
  obtain ⟨g1, g2, g3, g4⟩ := hg
  match xs, h with
  | [y], h3 =>
    have h3' : m = 1 ∧ 0 ≤ y ∧ y < n := of_decide_eq_true h3
    obtain ⟨rfl, h5, h6⟩ := h3'
    exact ⟨by simp [elA], by simp [elA], by simpa [elB] using h5, by simpa [elB] using h6⟩
  | [x, y], h3 =>
    have h3' : m ≠ 1 ∧ (0 ≤ x ∧ x < m) ∧ 0 ≤ y ∧ y < n := of_decide_eq_true h3
    obtain ⟨h4, ⟨h5, h6⟩, h7, h8⟩ := h3'
    exact ⟨by simpa [elA, h4] using h5, by simpa [elA, h4] using h6, by simpa [elB, h4] using h7, by simpa [elB, h4] using h8⟩
theorem readEl_yes (A : Option Addr) (c m n : Nat) (xs : List Int) (w : World) (hg : Gr m n) (hl : xs.length ≤ 1000000) (ha : IntsAt w A xs) (hv : elV m n xs = true) :
    Calls Try.prog 50 #[pv m n, .slice A xs.length c] w fun e w' => e = .returned (.tuple #[pv (elA m xs) (elB m xs), .bool true]) ∧ Below w.heap.size w w' :=
  (readEl_any A c m n xs w hg hl ha).mono fun _ _ ⟨h1, h2⟩ => ⟨by rw [h1, elR, hv], h2⟩
theorem readEl_no (A : Option Addr) (c m n : Nat) (xs : List Int) (w : World) (hg : Gr m n) (hl : xs.length ≤ 1000000) (ha : IntsAt w A xs) (hv : elV m n xs = false) :
    Calls Try.prog 50 #[pv m n, .slice A xs.length c] w fun e w' => e = .returned (.tuple #[pv (elA m xs) (elB m xs), .bool false]) ∧ Below w.heap.size w w' :=
  (readEl_any A c m n xs w hg hl ha).mono fun _ _ ⟨h1, h2⟩ => ⟨by rw [h1, elR, hv], h2⟩
theorem Order_yes (A B : Option Addr) (c d m n : Nat) (g xs : List Int) (w : World) (hg : IsG g m n) (hl : xs.length ≤ 1000000) (ha : IntsAt w A g) (hb : IntsAt w B xs) (hv : elV m n xs = true) :
    Calls Try.prog 28 #[.slice A g.length c, .slice B xs.length d] w fun e w' => e = .returned (.tuple #[.int .i64 (ordV m n (elA m xs) (elB m xs)), .int .i64 0]) ∧ Below w.heap.size w w' := by
  have HH := Lib.hid (readGroup_yes A c g m n w hg ha)
  have HG := Lib.hid hg.1
  have HE := Lib.hid (elV_el hg.1 hv)
  have HV := Lib.hid hv
  have HB := Lib.hid hb
  clear hg ha hv hb
  go_enter Try.func28, Try.ntmps28
  go_wp2_with (first
    | (go_at_call 53; with_reducible refine HH.out.mono ?_; rintro e w1 ⟨rfl, hb⟩; have b9 := hb.alloc hb.size (.cells #[.int .i64 m, .int .i64 n] 63); have q0 : Row (w1.alloc (.cells #[.int .i64 m, .int .i64 n] 63)) w1.heap.size 63 [.int .i64 m, .int .i64 n] := row_new rfl)
    | (go_at_call 50; with_reducible refine (readEl_yes B d m n xs _ HG.out hl (HB.out.below b9) HV.out).mono ?_; rintro e w2 ⟨rfl, hb2⟩; have b2 := (b9.trans (hb2.mono b9.size)).alloc (Nat.le_trans b9.size hb2.size) (.cells #[.int .i64 (elA m xs), .int .i64 (elB m xs)] 69); have q1 := (q0.below hb2).alloc (.cells #[.int .i64 (elA m xs), .int .i64 (elB m xs)] 69); obtain ⟨⟨c1, c2⟩, -⟩ := q1.cells2)
    | (go_at_call 58; with_reducible refine (order_any m n (elA m xs) (elB m xs) _ HG.out HE.out).mono ?_; rintro e w3 ⟨rfl, hb3⟩; have b3 := b2.trans (hb3.mono b2.size)))
  go_ret2
  exact ⟨rfl, b3⟩
theorem Order_el (A B : Option Addr) (c d m n : Nat) (g xs : List Int) (w : World) (hg : IsG g m n) (hl : xs.length ≤ 1000000) (ha : IntsAt w A g) (hb : IntsAt w B xs) (hv : elV m n xs = false) :
    Calls Try.prog 28 #[.slice A g.length c, .slice B xs.length d] w fun e w' => e = .returned (.tuple #[.int .i64 0, .int .i64 2]) ∧ Below w.heap.size w w' := by
  have HH := Lib.hid (readGroup_yes A c g m n w hg ha)
  have HG := Lib.hid hg.1
  have HV := Lib.hid hv
  have HB := Lib.hid hb
  clear hg ha hv hb
  go_enter Try.func28, Try.ntmps28
  go_wp2_with (first
    | (go_at_call 53; with_reducible refine HH.out.mono ?_; rintro e w1 ⟨rfl, hb⟩; have b9 := hb.alloc hb.size (.cells #[.int .i64 m, .int .i64 n] 63))
    | (go_at_call 50; with_reducible refine (readEl_no B d m n xs _ HG.out hl (HB.out.below b9) HV.out).mono ?_; rintro e w2 ⟨rfl, hb2⟩; have b2 := (b9.trans (hb2.mono b9.size)).alloc (Nat.le_trans b9.size hb2.size) (.cells #[.int .i64 (elA m xs), .int .i64 (elB m xs)] 69)))
  go_ret2
  exact ⟨rfl, b2⟩
theorem Order_g (A B : Option Addr) (c d : Nat) (g xs : List Int) (w : World) (hl : g.length ≤ 1000000) (hv : grV g = false) (ha : IntsAt w A g) :
    Calls Try.prog 28 #[.slice A g.length c, .slice B xs.length d] w fun e w' => e = .returned (.tuple #[.int .i64 0, .int .i64 2]) ∧ Below w.heap.size w w' := by
  have HH := Lib.hid (readGroup_no A c g w hl hv ha)
  clear hv ha
  go_enter Try.func28, Try.ntmps28
  go_wp2_with (first | (go_at_call 53; refine HH.out.mono ?_; rintro e w1 ⟨rfl, hb⟩))
  go_ret2
  exact ⟨rfl, hb.alloc hb.size _⟩
end Go.Proofs.Ytokjdadgdfmffaa
