/- A group and a list are read. -/
import Derived.Test.YtokjdadgdfmffaaKF
namespace Go.Proofs.Ytokjdadgdfmffaa
open Go.RowKit
set_option maxHeartbeats 1000000
set_option maxRecDepth 100000
/-- The moduli of a group. -/
def IsG (g : List Int) (m n : Nat) : Prop := Gr m n ∧ (g = [(n : Int)] ∧ m = 1 ∨ g = [(m : Int), (n : Int)] ∧ 2 ≤ m) ∧ 2 ≤ n ∧ m * n ≤ 144 ∧ n % m = 0
theorem isG_len {g : List Int} {m n : Nat} (h : IsG g m n) : g.length ≤ 2 := by
  obtain ⟨_, ⟨h, _⟩ | ⟨h, _⟩, _⟩ := h <;> subst h <;> simp
theorem isG_R {g : List Int} {m n : Nat} (h : IsG g m n) : grR g = .tuple #[pv m n, .bool true] ∧ grV g = true := by
  obtain ⟨⟨g1, g2, g3, g4⟩, ⟨h, h1⟩ | ⟨h, h1⟩, h2, h3, h4⟩ := h
  · subst h h1
    have e : (2 : Int) ≤ n ∧ (n : Int) ≤ 24 := by omega
    simp only [grR, grA, grB, grV, eq_true e, if_true, decide_true]
    exact ⟨rfl, trivial⟩
  · subst h
    have e : ((2 : Int) ≤ m ∧ (m : Int) ≤ 24) ∧ (2 : Int) ≤ n ∧ (n : Int) ≤ 24 := by omega
    have e1 : (n : Int) % m = 0 := by rw [← Int.natCast_emod, h4]; rfl
    have e2 : (m : Int) * n ≤ 144 := by rw [← Int.natCast_mul]; omega
    simp only [grR, grA, grB, grV, eq_true e, eq_true e1, eq_true e2, if_true, and_self, decide_true]
theorem isG_of {g : List Int} (h : grV g = true) : ∃ m n, IsG g m n := by
  match g, h with
  | [x], h =>
    have h' : 2 ≤ x ∧ x ≤ 24 := of_decide_eq_true h
    refine ⟨1, x.toNat, ⟨by omega, by omega, by omega, by omega⟩, .inl ⟨by congr 1; omega, rfl⟩, by omega, by omega, Nat.mod_one _⟩
  | [x, y], h =>
    have h' : ((2 ≤ x ∧ x ≤ 24) ∧ 2 ≤ y ∧ y ≤ 24) ∧ y % x = 0 ∧ x * y ≤ 144 := of_decide_eq_true h
    obtain ⟨⟨⟨h1, h2⟩, h3, h4⟩, h5, h6⟩ := h'
    obtain ⟨m, rfl⟩ := Int.eq_ofNat_of_zero_le (show 0 ≤ x by omega)
    obtain ⟨n, rfl⟩ := Int.eq_ofNat_of_zero_le (show 0 ≤ y by omega)
    refine ⟨m, n, ⟨by omega, by omega, by omega, by omega⟩, .inr ⟨rfl, by omega⟩, by omega, ?_, ?_⟩
    · have : ((m * n : Nat) : Int) ≤ 144 := by rw [Int.natCast_mul]; exact h6
      omega
    · have : ((n % m : Nat) : Int) = 0 := by rw [Int.natCast_emod]; exact h5
      omega
theorem readGroup_yes (A : Option Addr) (c : Nat) (g : List Int) (m n : Nat) (w : World) (hg : IsG g m n) (ha : IntsAt w A g) :
    Calls Try.prog 53 #[.slice A g.length c] w fun e w' => e = .returned (.tuple #[pv m n, .bool true]) ∧ Below w.heap.size w w' :=
  (readGroup_any A c g w (by have := isG_len hg; omega) ha).mono fun _ _ ⟨h1, h2⟩ => ⟨by rw [h1, (isG_R hg).1], h2⟩
theorem readGroup_no (A : Option Addr) (c : Nat) (g : List Int) (w : World) (hl : g.length ≤ 1000000) (hv : grV g = false) (ha : IntsAt w A g) :
    Calls Try.prog 53 #[.slice A g.length c] w fun e w' => e = .returned (.tuple #[pv (grA g) (grB g), .bool false]) ∧ Below w.heap.size w w' :=
  (readGroup_any A c g w hl ha).mono fun _ _ ⟨h1, h2⟩ => ⟨by rw [h1, grR, hv], h2⟩
def BothR (w : World) (m n : Nat) (es : List (Int × Int)) (e : Ending) (w' : World) : Prop := ∃ v, e = .returned (.tuple #[pv m n, v, .bool true]) ∧ ElsAt w es v w' ∧ Below w.heap.size w w'
def BothNo (w : World) (e : Ending) (w' : World) : Prop := ∃ x y : Int, e = .returned (.tuple #[pv x y, .slice none 0 0, .bool false]) ∧ Below w.heap.size w w'
theorem res3 {P : Program} {F : Func} {tm : Array Value} {i j l k : Nat} {t : TypeId} {v u z : Value} {W : World} (hF : F.results = #[ResultVar.cell i t, ResultVar.tmp j, ResultVar.tmp l]) (h0 : tm.getD i undef = .pointer (some ⟨k, 0, none⟩)) (h1 : tm.getD j undef = u) (h2 : tm.getD l undef = z)
    (hl : (loadVar t ⟨k, 0, none⟩).run P W = .ok v W) : (results F tm).run P W = .ok (.tuple #[v, u, z]) W := by
  have h0' : tm[i]?.getD undef = .pointer (some ⟨k, 0, none⟩) := by simpa using h0
  have h1' : tm[j]?.getD undef = u := by simpa using h1
  have h2' : tm[l]?.getD undef = z := by simpa using h2
  simp [results, hF, h0', h1', h2', asAddr, hl]
theorem readBoth_g (A B : Option Addr) (c d : Nat) (g : List Int) (L : List (List Int)) (w : World) (hl : g.length ≤ 1000000) (hv : grV g = false) (ha : IntsAt w A g) :
    Calls Try.prog 47 #[.slice A g.length c, .slice B L.length d] w (BothNo w) := by
  have r0 : Row (w.alloc (.cells #[.int .i64 0, .int .i64 0] 63)) w.heap.size 63 [.int .i64 0, .int .i64 0] := row_new rfl
  have a0 := ha.alloc (.cells #[.int .i64 0, .int .i64 0] 63)
  have b0 : Below w.heap.size w (w.alloc (.cells #[.int .i64 0, .int .i64 0] 63)) := by (repeat (first | exact Below.refl _ _ | assumption | (refine Below.setCell ?_ (by first | exact Nat.le_refl _ | omega | (simp; done) | (simp; omega)) _) | (refine Below.trans ?_ (below_drewN _)) | (refine Below.drew ?_) | (refine Below.alloc ?_ (by first | exact Nat.le_refl _ | omega | (simp; done) | (simp; omega)) _) | (refine below_row ?_ (by first | exact Nat.le_refl _ | omega | (simp; done) | (simp; omega)) _)))
  go_enter Try.func47, Try.ntmps47
  go_wp2_with (go_at_call 53; with_reducible refine (readGroup_no A c g _ hl hv a0).mono ?_; rintro e w1 ⟨rfl, hb⟩; have q := (r0.below hb).alloc (.cells #[.int .i64 (grA g), .int .i64 (grB g)] 63); have hb2 := (b0.trans (hb.mono (by simp))).alloc (Nat.le_trans b0.size hb.size) (.cells #[.int .i64 (grA g), .int .i64 (grB g)] 63); obtain ⟨⟨q1, q2⟩, q3, q4⟩ := q.cells2)
  exact bodyPost_ret (v := .tuple #[pv 0 0, .slice none 0 0, .bool false]) (res3 Try.results47 rfl rfl rfl (load63 ((q.set 0 (.int .i64 0)).set 1 (.int .i64 0)))) rfl ⟨0, 0, rfl, (hb2.setCell (p := ⟨w.heap.size, 0, none⟩) (Nat.le_refl _) _).setCell (p := ⟨w.heap.size, 1, none⟩) (Nat.le_refl _) _⟩
theorem readBoth_l (A B : Option Addr) (c d m n : Nat) (g : List Int) (L : List (List Int)) (w : World) (hg : IsG g m n) (hl : L.length ≤ 1000000) (hl2 : ∀ i, i < L.length → (getl L i).length ≤ 1000000) (ha : IntsAt w A g) (hb : RowsAt w B L) (hv : rlV m n L = false) :
    Calls Try.prog 47 #[.slice A g.length c, .slice B L.length d] w (BothNo w) := by
  have r0 : Row (w.alloc (.cells #[.int .i64 0, .int .i64 0] 63)) w.heap.size 63 [.int .i64 0, .int .i64 0] := row_new rfl
  have a0 := ha.alloc (.cells #[.int .i64 0, .int .i64 0] 63)
  have b0 : Below w.heap.size w (w.alloc (.cells #[.int .i64 0, .int .i64 0] 63)) := by (repeat (first | exact Below.refl _ _ | assumption | (refine Below.setCell ?_ (by first | exact Nat.le_refl _ | omega | (simp; done) | (simp; omega)) _) | (refine Below.trans ?_ (below_drewN _)) | (refine Below.drew ?_) | (refine Below.alloc ?_ (by first | exact Nat.le_refl _ | omega | (simp; done) | (simp; omega)) _) | (refine below_row ?_ (by first | exact Nat.le_refl _ | omega | (simp; done) | (simp; omega)) _)))
  have HL := Lib.hid hl2
  have HB := Lib.hid hb
  have HG := Lib.hid hg.1
  clear hl2 hb
  go_enter Try.func47, Try.ntmps47
  go_wp2_with (first
    | (go_at_call 53; with_reducible refine (readGroup_yes A c g m n _ hg a0).mono ?_; rintro e w1 ⟨rfl, hb1⟩; have q := (r0.below hb1).alloc (.cells #[.int .i64 m, .int .i64 n] 63); have q2 : Row (w1.alloc (.cells #[.int .i64 m, .int .i64 n] 63)) w1.heap.size 63 [.int .i64 m, .int .i64 n] := row_new rfl; have hb2 := (b0.trans (hb1.mono (by simp))).alloc (Nat.le_trans b0.size hb1.size) (.cells #[.int .i64 m, .int .i64 n] 63); have rb := Lib.hid (HB.out.below hb2); have hs2 := hb2.size;)
    | (go_at_call 64; with_reducible refine (readList_no B d m n L _ HG.out hl HL.out rb.out hv).mono ?_; rintro e w3 ⟨rfl, hb3⟩; have p := q.below hb3; have p2 := q2.below hb3; have hb4 := hb2.trans (hb3.mono hs2); obtain ⟨⟨z1, z2⟩, z3, z4⟩ := p.cells2; obtain ⟨⟨y1, y2⟩, y3, y4⟩ := p2.cells2))
  exact bodyPost_ret (v := .tuple #[pv m n, .slice none 0 0, .bool false]) (res3 Try.results47 rfl rfl rfl (load63 ((p.set 0 (.int .i64 m)).set 1 (.int .i64 n)))) rfl ⟨m, n, rfl, (hb4.setCell (p := ⟨w.heap.size, 0, none⟩) (Nat.le_refl _) _).setCell (p := ⟨w.heap.size, 1, none⟩) (Nat.le_refl _) _⟩
theorem readBoth_yes (A B : Option Addr) (c d m n : Nat) (g : List Int) (L : List (List Int)) (w : World) (hg : IsG g m n) (hl2 : ∀ i, i < L.length → (getl L i).length ≤ 1000000) (ha : IntsAt w A g) (hb : RowsAt w B L) (hv : rlV m n L = true) :
    Calls Try.prog 47 #[.slice A g.length c, .slice B L.length d] w (BothR w m n (rlE m L)) := by
  have r0 : Row (w.alloc (.cells #[.int .i64 0, .int .i64 0] 63)) w.heap.size 63 [.int .i64 0, .int .i64 0] := row_new rfl
  have a0 := ha.alloc (.cells #[.int .i64 0, .int .i64 0] 63)
  have b0 : Below w.heap.size w (w.alloc (.cells #[.int .i64 0, .int .i64 0] 63)) := by (repeat (first | exact Below.refl _ _ | assumption | (refine Below.setCell ?_ (by first | exact Nat.le_refl _ | omega | (simp; done) | (simp; omega)) _) | (refine Below.trans ?_ (below_drewN _)) | (refine Below.drew ?_) | (refine Below.alloc ?_ (by first | exact Nat.le_refl _ | omega | (simp; done) | (simp; omega)) _) | (refine below_row ?_ (by first | exact Nat.le_refl _ | omega | (simp; done) | (simp; omega)) _)))
  have HL := Lib.hid hl2
  have HB := Lib.hid hb
  have HG := Lib.hid hg.1
  clear hl2 hb
  go_enter Try.func47, Try.ntmps47
  go_wp2_with (first
    | (go_at_call 53; with_reducible refine (readGroup_yes A c g m n _ hg a0).mono ?_; rintro e w1 ⟨rfl, hb1⟩; have q := (r0.below hb1).alloc (.cells #[.int .i64 m, .int .i64 n] 63); have q2 : Row (w1.alloc (.cells #[.int .i64 m, .int .i64 n] 63)) w1.heap.size 63 [.int .i64 m, .int .i64 n] := row_new rfl; have hb2 := (b0.trans (hb1.mono (by simp))).alloc (Nat.le_trans b0.size hb1.size) (.cells #[.int .i64 m, .int .i64 n] 63); have rb := Lib.hid (HB.out.below hb2); have hs2 := hb2.size;)
    | (go_at_call 64; fail))
  refine (readList_yes B d m n L _ HG.out HL.out rb.out hv).mono ?_
  rintro e w3 ⟨v, rfl, ⟨g8, rfl, hg8, q8⟩, hb3⟩
  have p := q.below hb3
  have p2 := q2.below hb3
  have hb4 := hb2.trans (hb3.mono hs2)
  obtain ⟨⟨z1, z2⟩, z3, z4⟩ := p.cells2
  obtain ⟨⟨y1, y2⟩, y3, y4⟩ := p2.cells2
  go_wp2
  refine bodyPost_ret (v := .tuple #[pv m n, .slice (some ⟨g8, 0, none⟩) (rlE m L).length (rlE m L).length, .bool true]) (res3 Try.results47 rfl rfl rfl (load63 ((p.set 0 (.int .i64 m)).set 1 (.int .i64 n)))) rfl ⟨_, rfl, ⟨g8, rfl, by omega, ?_⟩, (hb4.setCell (p := ⟨w.heap.size, 0, none⟩) (Nat.le_refl _) _).setCell (p := ⟨w.heap.size, 1, none⟩) (Nat.le_refl _) _⟩
  have hs1 := hb2.size
  have hlq := q.lt
  exact (q8.far (by dsimp only; omega) _).far (by dsimp only; omega) _
end Go.Proofs.Ytokjdadgdfmffaa
