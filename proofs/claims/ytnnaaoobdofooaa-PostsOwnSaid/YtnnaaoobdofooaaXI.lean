/- Without, and PostsOwn walked -/
import Derived.Test.YtnnaaoobdofooaaRS
import Derived.Test.YtnnaaoobdofooaaXC
import Derived.Test.YtnnaaoobdofooaaXH
import Derived.Test.YtnnaaoobdofooaaXF
import Derived.Test.YtnnaaoobdofooaaSW
import Derived.Test.YtnnaaoobdofooaaRO
import Derived.Test.YtnnaaoobdofooaaRU
import Derived.Test.YtnnaaoobdofooaaXE
/- A row and a column taken away: Without, without the law of other texts. -/
namespace Go.Proofs.Ytnnaaoobdofooaa
open Go.RowKit
set_option maxHeartbeats 1000000
set_option maxRecDepth 100000
theorem Without_yes (A : Option Addr) (c : Nat) (L : List (List Int)) (r k : Nat) (w : World) (h : IsT L) (hr : r < L.length) (hk : k < L.length) (ha : RowsAt w A L) :
    Calls Try.prog 26 #[.slice A L.length c, .int .i64 r, .int .i64 k] w fun e w' => ∃ A' c' cs, e = .returned (.tuple #[.slice A' (wo L r k).length c', .int .i64 0]) ∧ w'.ownsRow w.heap.size 27 1 (.slice A' (wo L r k).length c') (wo L r k).length cs ∧ RowsOwn w' w.heap.size cs (wo L r k) ∧ Below w.heap.size w w' := by
  have HR := Lib.hid (readTable_yes A c L w h ha)
  have HP := Lib.hid (fun w => without53_any L r k w h hr hk)
  have g1 : decide ((r : Int) < 0) = false := decide_eq_false (by omega)
  have g2 : decide ((L.length : Int) ≤ (r : Int)) = false := decide_eq_false (by omega)
  have g3 : decide ((k : Int) < 0) = false := decide_eq_false (by omega)
  have g4 : decide ((L.length : Int) ≤ (k : Int)) = false := decide_eq_false (by omega)
  have HC0 : Hid (∀ (W : World) (g : Nat), Row W g 73 (iv (grd L)) → W.cell? ⟨g, 0, none⟩ = some (.int .i64 (L.length : Int))) := Lib.hid (fun W g h => ivR h (i := 0) (by unfold grd; rw [grdP_len]; omega))
  have hi := info73_iv (x := grd L) (grdP_len _ 100)
  have hsz : Try.zeroCells73.toList.toArray.size = (iv (grd L)).toArray.size := by rw [z73]; exact size73_iv (by simp) (grdP_len L 100)
  clear h ha
  generalize wo L r k = T at *
  go_enter Try.func26, Try.ntmps26
  go_wp2_with (first
    | (go_at_call 48; refine HR.out.mono ?_; rintro e w2 ⟨rfl, b2⟩; have q0 : Row (w2.alloc (.cells Try.zeroCells73 73)) w2.heap.size 73 Try.zeroCells73.toList := row_new (by simp); have b0 := b2.alloc b2.size (.cells Try.zeroCells73 73); have hbz := b2.size)
    | (with_reducible refine (?_ : wpList _ _ _ (Oper.mk _ (Op.store 73 _ _) _ _ _ _ :: _) _ _); refine wpList_store_row rfl 73 _ _ rfl w2.heap.size (iv (grd L)).toArray rfl rfl 73 Try.zeroCells73.toList.toArray (row_heap q0) hi hsz (iv_all _) ?_; replace q0 := q0.row (iv (grd L)); replace b0 := below_row (g := w2.heap.size) b0 hbz (iv (grd L)).toArray; generalize World.setRow (w2.alloc _) _ _ = W at *; have c0 := HC0.out W _ q0)
    | (with_reducible refine (?_ : wpList _ _ _ (Oper.mk _ (Op.load 73 _) _ _ _ _ :: _) _ _); refine wpList_load_row rfl 73 _ rfl w2.heap.size rfl 73 (iv (grd L)).toArray (0, 0) _ (row_heap q0) Try.underlying73 rfl hi ?_)
    | (go_at_call 53; fail))
  refine (HP.out _).mono ?_
  rintro e w4 ⟨A4, c4, cs, rfl, o4, R4, b4⟩
  have o5 := own_mono o4 b0.size
  have R5 : RowsOwn w4 w.heap.size cs T := R4.mono b0.size
  replace b0 := b0.trans (b4.mono b0.size)
  clear o4
  go_wp2
  go_ret2
  exact ⟨_, _, _, rfl, o5, R5, b0⟩
end Go.Proofs.Ytnnaaoobdofooaa
/- PostsOwn walked. -/
namespace Go.Proofs.Ytnnaaoobdofooaa
open Go.RowKit
set_option maxHeartbeats 4000000
set_option maxRecDepth 100000
/-- Numbers that may be written. -/
def RL (w : World) (g n : Nat) : Prop := ∃ cs : List Value, n ≤ cs.length ∧ Row w g 3 cs
theorem RL.set {w : World} {g n : Nat} (h : RL w g n) (b i : Nat) (u : Value) : RL (w.setCell ⟨b, i, none⟩ u) g n := by
  obtain ⟨cs, h1, h2⟩ := h
  by_cases e : g = b
  · subst e
    exact ⟨cs.set i u, by rw [List.length_set]; exact h1, h2.set i u⟩
  · exact ⟨cs, h1, h2.far e u⟩
theorem RL.cell {w : World} {g n : Nat} (h : RL w g n) {k : Nat} (hk : k < n) : (∃ u, w.cell? ⟨g, k, none⟩ = some u) ∧ w.frozen? ⟨g, k, none⟩ = false := by
  obtain ⟨cs, h1, h2⟩ := h
  exact ⟨⟨cs[k], by rw [h2.cell k, List.getElem?_eq_getElem (by omega)]⟩, h2.free k⟩
theorem own_RL {w : World} {B n c : Nat} {A : Option Addr} {xs : List Value} (h : w.ownsRow B 3 1 (.slice A n c) n xs) : 0 < n → ∃ g, A = some ⟨g, 0, none⟩ ∧ B ≤ g ∧ RL w g n := by
  intro hp
  rcases h.2 with ⟨e, h0⟩ | ⟨g, cap, cur, e, hb, hg, hc, _, hs, _⟩
  · omega
  · injection e with e1 e2 e3
    subst e1
    exact ⟨g, rfl, hb, cur.toList, by rw [Array.length_toList, hs]; omega, by unfold Row; simpa using hg⟩
theorem own_max {w : World} {B n z : Nat} {t : TypeId} {v : Value} {xs : List Value} (h : w.ownsRow B t z v n xs) : n ≤ maxLen := by
  rcases h.2 with ⟨e, h0⟩ | ⟨g, cap, cur, e, hb, hg, hc, hm, _⟩
  · omega
  · omega
/-- A list of the call's own. -/
def OwR (w : World) (N : Nat) (u : Value) : Prop := ∃ A n c xs, u = .slice A n c ∧ w.ownsRow N 3 1 (.slice A n c) n xs
theorem OwR.below {w V : World} {N : Nat} {u : Value} (h : OwR w N u) (k : Below w.heap.size w V) : OwR V N u := by
  obtain ⟨A, n, c, xs, e, o⟩ := h
  exact ⟨A, n, c, xs, e, o.kept' k⟩
theorem rows_OwR {w : World} {B N : Nat} {cs : List Value} {L : List (List Int)} (h : RowsOwn w B cs L) (hN : N ≤ B) : ∀ (j : Nat) (u : Value), cs[j]? = some u → OwR w N u := fun j u hj => by
  have hl : j < L.length := by rw [← h.1]; exact (List.getElem?_eq_some_iff.1 hj).1
  obtain ⟨v, h1, h2⟩ := h.2 j hl
  rw [hj] at h1
  injection h1 with h1
  subst h1
  obtain ⟨A, c, rfl, -, -, -⟩ := own_intsI h2
  exact ⟨A, _, c, _, rfl, own_mono h2 hN⟩
def vA : Value → Option Addr | .slice A _ _ => A | _ => none
def vN : Value → Nat | .slice _ n _ => n | _ => 0
def vC : Value → Nat | .slice _ _ c => c | _ => 0
def atV (cs : List Value) (i : Nat) : Value := cs.getD i (.slice none 0 0)
/-- A list of lists, each of which may be written. -/
def WrA (w : World) (G N m : Nat) (AA : Nat → Option Addr) (NN CC : Nat → Nat) : Prop :=
  (∃ cs, Row w G 27 cs) ∧ ∀ i, i < m → w.cell? ⟨G, i, none⟩ = some (.slice (AA i) (NN i) (CC i)) ∧ (0 < NN i → ∃ g, AA i = some ⟨g, 0, none⟩ ∧ N ≤ g ∧ RL w g (NN i))
theorem WrA.set {w : World} {G N m n : Nat} {AA : Nat → Option Addr} {NN CC : Nat → Nat} (h : WrA w G N m AA NN CC) {g : Nat} (hg : RL w g n) (i : Nat) (u : Value) : WrA (w.setCell ⟨g, i, none⟩ u) G N m AA NN CC := by
  obtain ⟨⟨cs, h2⟩, h3⟩ := h
  have hne : G ≠ g := by
    obtain ⟨ds, _, h4⟩ := hg
    exact h2.ne h4 (by decide)
  have h7 : Row (w.setCell ⟨g, i, none⟩ u) G 27 cs := h2.far hne u
  refine ⟨⟨cs, h7⟩, fun j hj => ?_⟩
  obtain ⟨h5, h6⟩ := h3 j hj
  refine ⟨?_, fun hp => ?_⟩
  · rw [h7.cell, ← h2.cell]; exact h5
  · obtain ⟨g2, e1, e2, e3⟩ := h6 hp
    exact ⟨g2, e1, e2, e3.set _ _ _⟩
theorem wra_start {w : World} {N B m : Nat} {v : Value} {cs : List Value} (hm : 0 < m) (h : w.ownsRow B 27 1 v m cs) (hO : ∀ (j : Nat) (u : Value), cs[j]? = some u → OwR w N u) :
    ∃ G c, v = .slice (some ⟨G, 0, none⟩) m c ∧ WrA w G N m (fun i => vA (atV cs i)) (fun i => vN (atV cs i)) (fun i => vC (atV cs i)) ∧ ∀ i, vN (atV cs i) ≤ maxLen := by
  have hl : cs.length = m := by have := h.1; omega
  have hat : ∀ i, i < m → cs[i]? = some (atV cs i) := fun i hi => by unfold atV; rw [List.getD_eq_getElem?_getD, List.getElem?_eq_getElem (by omega)]; rfl
  rcases h.2 with ⟨_, h0⟩ | ⟨g, cap, cur, rfl, hb0, hg, hc, _, hs, ht⟩
  · omega
  · refine ⟨g, cap, rfl, ⟨⟨cur.toList, by unfold Row; simpa using hg⟩, fun i hi => ?_⟩, fun i => ?_⟩
    · obtain ⟨A, n, c, xs, e, o⟩ := hO i _ (hat i hi)
      have := h.cells (g := g) rfl i _ (hat i hi)
      rw [WideShapes.add_plain, Nat.zero_add] at this
      rw [this]
      refine ⟨?_, ?_⟩
      · show some (atV cs i) = some (.slice (vA (atV cs i)) (vN (atV cs i)) (vC (atV cs i)))
        rw [e]; rfl
      · show 0 < vN (atV cs i) → ∃ g, vA (atV cs i) = some ⟨g, 0, none⟩ ∧ N ≤ g ∧ RL w g (vN (atV cs i))
        rw [e]
        exact own_RL o
    · by_cases hi : i < m
      · obtain ⟨A, n, c, xs, e, o⟩ := hO i _ (hat i hi)
        rw [e]
        exact own_max o
      · unfold atV
        rw [List.getD_eq_getElem?_getD, List.getElem?_eq_none (by omega)]
        exact Nat.zero_le _
theorem own_src {w : World} {B t n c : Nat} {A : Option Addr} {cs : List Value} (h : w.ownsRow B t 1 (.slice A n c) n cs) : (A = none → n = 0 ∧ c = 0) ∧ ∀ ad, A = some ad → ∀ (j : Nat) (u : Value), cs[j]? = some u → w.cell? (ad.add j) = some u := by
  refine ⟨fun e => ?_, fun ad e j u hu => ?_⟩
  · subst e
    rcases h.2 with ⟨e, -⟩ | ⟨g, cap, cur, e, -⟩
    · injection e with e1 e2 e3; exact ⟨e2, e3⟩
    · injection e with e1; cases e1
  · subst e
    rcases h.2 with ⟨e, -⟩ | ⟨g, cap, cur, e, -⟩
    · injection e with e1; cases e1
    · injection e with e1 e2 e3
      injection e1 with e1
      subst e1
      exact h.cells (g := g) rfl j u hu
def ChoR (V : World) (e : Ending) (w' : World) : Prop := ∃ A n c xs A2 n2 c2 ys, e = .returned (.tuple #[.slice A n c, .slice A2 n2 c2, .int .i64 0]) ∧ w'.ownsRow V.heap.size 3 1 (.slice A n c) n xs ∧ w'.ownsRow V.heap.size 3 1 (.slice A2 n2 c2) n2 ys ∧ Below V.heap.size V w'
theorem cho_any (A : Option Addr) (c : Nat) (L : List (List Int)) (w : World) (h : IsT L) (ha : RowsAt w A L) : Calls Try.prog 31 #[.slice A L.length c] w (ChoR w) := by
  by_cases hk : 0 < chN L (sAll L.length)
  · refine (Choose_yes A c L w h hk ha).mono ?_
    rintro e w' ⟨A', c', rfl, o, b⟩
    exact ⟨A', _, c', _, none, 0, 0, [], rfl, o, ⟨rfl, .inl ⟨rfl, rfl⟩⟩, b⟩
  · refine (Choose_none A c L w h (by omega) ha).mono ?_
    rintro e w' ⟨A', c', rfl, o, b⟩
    exact ⟨none, 0, 0, [], A', _, c', _, rfl, ⟨rfl, .inl ⟨rfl, rfl⟩⟩, o, b⟩
def TabR (n : Nat) (T : List (List Int)) (V : World) (e : Ending) (w' : World) : Prop := ∃ A c cs, e = .returned (.slice A n c) ∧ w'.ownsRow V.heap.size 27 1 (.slice A n c) n cs ∧ RowsOwn w' V.heap.size cs T ∧ Below V.heap.size V w'
def WitR (T : List (List Int)) (V : World) (e : Ending) (w' : World) : Prop := ∃ A c cs, e = .returned (.tuple #[.slice A T.length c, .int .i64 0]) ∧ w'.ownsRow V.heap.size 27 1 (.slice A T.length c) T.length cs ∧ RowsOwn w' V.heap.size cs T ∧ Below V.heap.size V w'
def SplR (ls : List Lay) (k : Nat) (V : World) (e : Ending) (w' : World) : Prop := ∃ A c ps, e = .returned (.tuple #[.slice A k c, .int .i64 0]) ∧ ps.length = k ∧ w'.ownsRow V.heap.size 69 2 (.slice A k c) k (lcs ps) ∧ (∀ (j : Nat) (u : Value), (ps.map (·.2))[j]? = some u → OwR w' V.heap.size u) ∧ LaysAt w' A ls ∧ Below V.heap.size V w'
theorem spl_any (A : Option Addr) (c : Nat) (T : List (List Int)) (w : World) (h : IsT T) (hl : isLev T = true) (ha : RowsAt w A T) : Calls Try.prog 39 #[.slice A T.length c] w (SplR (spL T (lvN T)) (spL T (lvN T)).length w) := by
  have F := spf h hl
  refine (Split_yes A c T w h hl ha).mono ?_
  rintro e w' ⟨v, ps, rfl, o, hw, R, b⟩
  obtain ⟨A2, c2, rfl, Y⟩ := lays_at o hw R rfl F.l12
  have hpl : ps.length = (spL T (lvN T)).length := by have := congrArg List.length hw; simpa using this
  exact ⟨A2, c2, ps, rfl, hpl, o, rows_OwR R (Nat.le_refl _), Y, b⟩
theorem OwR.mono {w : World} {N N' : Nat} {u : Value} (h : OwR w N u) (hN : N' ≤ N) : OwR w N' u := by
  obtain ⟨A, n, c, xs, e, o⟩ := h
  exact ⟨A, n, c, xs, e, own_mono o hN⟩
theorem OwR.one {w : World} {N : Nat} {u : Value} (h : OwR w N u) : u.oneCell' = true := by
  obtain ⟨A, n, c, xs, rfl, o⟩ := h
  rfl
theorem rows_one {w : World} {B : Nat} {cs : List Value} {L : List (List Int)} (h : RowsOwn w B cs L) : ∀ u ∈ cs, u.oneCell' = true := fun u hu => by
  obtain ⟨j, hj, e⟩ := List.getElem_of_mem hu
  exact (rows_OwR h (Nat.le_refl B) j u (by rw [List.getElem?_eq_getElem hj, e])).one
theorem all_first {w : World} {N : Nat} {a b : Value} {cs : List Value} (ha : OwR w N a) (hb : OwR w N b) (h : ∀ (j : Nat) (u : Value), cs[j]? = some u → OwR w N u) : ∀ (j : Nat) (u : Value), ([a, b] ++ cs)[j]? = some u → OwR w N u := fun j u hj => by
  rcases j with _ | _ | j
  · simp at hj; subst hj; exact ha
  · simp at hj; subst hj; exact hb
  · simp at hj; exact h j u hj
theorem all_snoc {w : World} {N : Nat} {a : Value} {cs : List Value} (ha : OwR w N a) (h : ∀ (j : Nat) (u : Value), cs[j]? = some u → OwR w N u) : ∀ (j : Nat) (u : Value), (cs ++ [a])[j]? = some u → OwR w N u := fun j u hj => by
  by_cases e : j < cs.length
  · rw [List.getElem?_append_left e] at hj; exact h j u hj
  · rw [List.getElem?_append_right (by omega)] at hj
    have e2 : j - cs.length = 0 := by
      rcases Nat.eq_zero_or_pos (j - cs.length) with h | h
      · exact h
      · rw [List.getElem?_eq_none (by simp; omega)] at hj; cases hj
    rw [e2] at hj
    simp at hj; subst hj; exact ha
theorem lay_cells {w : World} {B N k c : Nat} {A : Option Addr} {ps : List (Int × Value)} (h : w.ownsRow B 69 2 (.slice A k c) k (lcs ps)) (hl : ps.length = k) (hP : ∀ (j : Nat) (u : Value), (ps.map (·.2))[j]? = some u → OwR w N u) (hp : 0 < k) :
    ∃ b o, A = some ⟨b, o, none⟩ ∧ b < w.heap.size ∧ ∀ i, i < k → ∃ u, w.cell? ⟨b, o + i * 2 + 1, none⟩ = some u ∧ OwR w N u := by
  rcases h.2 with ⟨e, h0⟩ | ⟨g, cap, cur, e, hb, hg, hc, _, hs, ht⟩
  · omega
  · injection e with e1 e2 e3
    subst e1
    refine ⟨g, 0, rfl, (Array.getElem?_eq_some_iff.1 hg).1, fun i hi => ?_⟩
    obtain ⟨-, a2⟩ := lcs_at ps i (by omega)
    have hi2 : (ps.map (·.2))[i]? = some ((ps.map (·.2))[i]'(by rw [List.length_map]; omega)) := List.getElem?_eq_getElem _
    rw [hi2] at a2
    refine ⟨_, ?_, hP i _ hi2⟩
    have c2 := h.cells (g := g) rfl _ _ a2
    rw [WideShapes.add_plain] at c2
    rw [Nat.add_assoc]
    exact c2
theorem pow_walk (n0 : Int) (A : Option Addr) (m c p k : Nat) (w : World) (T W : List (List Int)) (ls : List Lay) (hp : p ≤ 5) (_hT : T.length = p + 1) (hW : W.length = p) (hk : k ≤ 90)
    (HMD : Hid (∀ V, Calls Try.prog 43 #[.int .i64 n0, .int .i64 6] V fun e w' => e = .returned (.int .i64 (p : Nat)) ∧ V = w'))
    (HLV : Hid (Calls Try.prog 47 #[.slice A m c, .int .i64 ((p + 1 : Nat) : Int)] w (TabR (p + 1) T w)))
    (HTB : Hid (∀ V A c, RowsIn V A T → Calls Try.prog 17 #[.slice A (p + 1) c] V (TabR (p + 1) T V)))
    (HCH : Hid (∀ V A c, RowsAt V A T → Calls Try.prog 31 #[.slice A (p + 1) c] V (ChoR V)))
    (HSP : Hid (∀ V A c, RowsAt V A T → Calls Try.prog 39 #[.slice A (p + 1) c] V (SplR ls k V)))
    (HWI : Hid (∀ V A c, RowsAt V A T → Calls Try.prog 26 #[.slice A (p + 1) c, .int .i64 0, .int .i64 0] V (WitR W V)))
    (HTX : Hid (∀ V A B c d, RowsAt V A T → RowsAt V B T → Calls Try.prog 29 #[.slice A (p + 1) c, .slice B (p + 1) d] V fun e w' => e = .returned (.bool true) ∧ Below V.heap.size V w'))
    (HLA : Hid (∀ V A B c d, RowsC V A T → LaysAt V B ls → Calls Try.prog 41 #[.slice A (p + 1) c, .slice B k d] V fun e w' => e = .returned (.bool true) ∧ Below V.heap.size V w'))
    (HRW : Hid (∀ V A c, RowsC V A T → Calls Try.prog 30 #[.slice A (p + 1) c, .int .i64 0, .int .i64 0] V (TabR p W V)))
    (HTW : Hid (∀ V A B c d, RowsAt V A W → RowsAt V B W → Calls Try.prog 29 #[.slice A p c, .slice B p d] V fun e w' => e = .returned (.bool true) ∧ Below V.heap.size V w')) :
    Calls Try.prog 16 #[.int .i64 n0, .slice A m c] w fun e w' => e = .returned (.bool true) ∧ Below w.heap.size w w' := by
  obtain ⟨k0, ki, kz0, kz1, kz2⟩ := info_parts info27
  have Hp : Hid (W.length = p) := Lib.hid hW
  clear hW
  go_enter Try.func16, Try.ntmps16
  go_wp2_with (first
    | (go_at_call 43; (with_reducible refine (HMD.out _).mono ?_); rintro e w0 ⟨rfl, rfl⟩)
    | (go_at_call 47; fail))
  rw [show (1 : Int) + (p : Int) = ((p + 1 : Nat) : Int) by omega]
  go_wp2_with (first
    | (go_at_call 47; refine HLV.out.mono ?_; rintro e w1 ⟨A1, c1, cs1, rfl, o1, R1, b1⟩; have ri := rows_in R1 o1; have rx := rows_c R1 o1; clear o1 R1)
    | (go_at_call 17; (with_reducible refine (HTB.out _ _ _ ri).mono ?_); rintro e w2 ⟨A2, c2, cs2, rfl, o2, R2, b2⟩; have rc := rows_c R2 o2; replace rx := rx.below b2; replace b1 := b1.trans (b2.mono b1.size); clear o2 R2 b2 ri)
    | (go_at_call 31; fail))
  have y0 := Below.refl w2.heap.size w2
  go_wp2_with (first
    | (go_at_call 31; (with_reducible refine (HCH.out _ _ _ (rx.at.below y0)).mono ?_); rintro e w3 ⟨A3, n3, c3, xs3, A4, n4, c4, xs4, rfl, o3, o4, b3⟩; replace o3 := own_mono o3 y0.size; replace o4 := own_mono o4 y0.size; replace y0 := y0.trans (b3.mono y0.size); clear b3)
    | (go_at_call 39; (with_reducible refine (HSP.out _ _ _ (rx.at.below y0)).mono ?_); rintro e w5 ⟨A5, c5, ps, rfl, hpl, o5, P5, -, b5⟩; replace o3 := o3.kept' b5; replace o4 := o4.kept' b5; replace o5 := own_mono o5 y0.size; have hy5 := y0.size; have HP5 := Lib.hid (fun V (hV : Below w5.heap.size w5 V) j u hj => ((P5 j u hj).mono hy5).below hV); replace y0 := y0.trans (b5.mono y0.size); clear b5 P5)
    | (go_at_call 26; (with_reducible refine (HWI.out _ _ _ (rx.at.below y0)).mono ?_); rintro e w6 ⟨A6, c6, cs6, rfl, o6, R6, b6⟩; rw [Hp.out] at o6; rw [Hp.out]; replace o3 := o3.kept' b6; replace o4 := o4.kept' b6; replace o5 := o5.kept' b6; have HP6 := Lib.hid (HP5.out _ b6); have hy6 := y0.size; have HO6 := Lib.hid (all_first ⟨A3, n3, c3, xs3, rfl, o3⟩ ⟨A4, n4, c4, xs4, rfl, o4⟩ (rows_OwR R6 hy6)); have h16 := rows_one R6; replace y0 := y0.trans (b6.mono y0.size); clear b6 o3 o4 HP5)
    | (at_builtin; have u6 := World.ownsRow_lit (base := w6.heap.size) (e := 27) (size := 1) w6 #[.slice A3 n3 c3, .slice A4 n4 c4] 2 (Nat.le_refl _) (by unfold maxLen; omega) rfl; refine wpList_append_x rfl (.tmp 48) (.tmp 49) 22 rfl w6.heap.size 27 k0 (.slice none 0 0) 1 24 Try.underlying22 ki kz0 kz1 kz2 rfl (by decide) _ 2 _ rfl u6 A6 p c6 cs6 rfl (own_src o6).1 (by have := o6.1; omega) (own_src (o6.alloc _)).2 h16 (by unfold maxLen; omega) (by omega) (by simp) ?_; intro v7 w7 o7 hg7))
  have b7 : Below w6.heap.size w6 w7 := ((Below.refl w6.heap.size w6).alloc (Nat.le_refl _) _).grown hg7 (by simp) (fun g hg => (own_ge u6 hg).1)
  have hy6 := y0.size
  have HSC := Lib.hid (fun hk0 => lay_cells o5 hpl HP6.out hk0)
  clear u6 hg7 o6 R6 h16 o5 hpl HP6
  have RX := Lib.hid (fun V (hV : Below w2.heap.size w2 V) => rx.below hV)
  have RC := Lib.hid (fun V (hV : Below w2.heap.size w2 V) => rc.below hV)
  have HO7 : Hid (∀ (j : Nat) (u : Value), ([.slice A3 n3 c3, .slice A4 n4 c4] ++ cs6)[j]? = some u → OwR w6 w2.heap.size u) := HO6
  generalize ([.slice A3 n3 c3, .slice A4 n4 c4] ++ cs6 : List Value) = cs7 at *
  have o7' : w7.ownsRow w6.heap.size 27 1 v7 (2 + p + 0) cs7 := o7
  clear o7 rx rc HO6 HCH HTB HLV
  go_wp2
  go_loopw [14, 15] (fun v u wr => ∃ (i : Nat) (cs : List Value), i ≤ k ∧ u = .int .i64 i ∧ wr.ownsRow w6.heap.size 27 1 v (2 + p + i) cs ∧ Hid (∀ (j : Nat) (u : Value), cs[j]? = some u → OwR w6 w2.heap.size u) ∧ Below w6.heap.size w6 wr) (fun _ u _ => k - (intOf u).toNat)
  case atStart => exact ⟨0, cs7, by omega, rfl, o7', HO7, b7⟩
  case round =>
    clear o7' HO7 b7
    obtain ⟨i, cs, hi, rfl, o7, HO7, b7⟩ := hrel
    obtain ⟨A8, c8, rfl⟩ := own_head o7
    by_cases hlt : i < k
    · have g1 : decide ((i : Int) < (k : Int)) = true := decide_eq_true (by omega)
      obtain ⟨bS, oS, hS, hbS, hcS⟩ := HSC.out (by omega)
      subst hS
      obtain ⟨u, e1, hu⟩ := hcS i hlt
      have HA := Lib.hid (all_snoc hu HO7.out)
      obtain ⟨A9, n9, c9, xs9, rfl, -⟩ := hu
      replace e1 := (b7.cell (p := ⟨bS, _, none⟩) hbS).trans e1
      have hnr : Row (wr.alloc (.cells #[.slice A9 n9 c9] 27)) wr.heap.size 27 [.slice A9 n9 c9] := row_new rfl
      have HO := Lib.hid o7
      have hb7 := b7.size
      clear hcS o7 HO7
      go_wp2_with (at_builtin; refine wpList_append_own_at _ rfl (.tmp 57) (.tmp 63) 22 rfl w6.heap.size 27 k0 (.slice none 0 0) 1 24 Try.underlying22 ki kz0 kz1 kz2 rfl (by decide) _ _ _ rfl (HO.out.alloc _) ⟨wr.heap.size, 0, none⟩ 1 1 [.slice A9 n9 c9] rfl rfl (news_one hnr) (by simp [Value.oneCell']) (by unfold maxLen; omega) (by omega) (by simp; omega) ?_; intro v9 w9 o9 hg9 _ _)
      have b9 := b7.trans (app1' HO.out hb7 hg9)
      go_roundw
      case rel => exact ⟨i + 1, _, by omega, by go_num, o9, HA, b9⟩
      case measure => simp [intOf]; omega
    · obtain rfl : i = k := by omega
      have g1 : decide ((i : Int) < (i : Int)) = false := decide_eq_false (by omega)
      obtain ⟨G, cG, hG, HQ0, hnn⟩ := wra_start (by omega) o7 (fun j u hj => (HO7.out j u hj).below b7)
      injection hG with hG1 hG2 hG3
      subst hG1 hG3
      have HNN := Lib.hid hnn
      clear hnn
      generalize (fun i => vA (atV cs i)) = AA at HQ0
      have HNN2 : Hid (∀ i, (fun i => vN (atV cs i)) i ≤ maxLen) := HNN
      clear HNN
      generalize (fun i => vN (atV cs i)) = NN at HQ0 HNN2
      generalize (fun i => vC (atV cs i)) = CC at HQ0
      replace y0 := y0.trans (b7.mono hy6)
      obtain ⟨MM, hMM⟩ : ∃ MM, MM = 2 + p + i := ⟨_, rfl⟩
      have hMb : MM ≤ 1000 := by omega
      rw [← hMM] at HQ0 ⊢
      clear hG2 o7 HO7 HSC b7 hMM
      go_wp2
      go_loopw [16] (fun u wr => ∃ r : Nat, r ≤ MM ∧ u = .int .i64 r ∧ WrA wr G w2.heap.size MM AA NN CC ∧ Below w2.heap.size w2 wr) (fun u _ => MM - (intOf u).toNat)
      case atStart => exact ⟨0, by omega, rfl, HQ0, y0⟩
      case round =>
        clear HQ0 y0
        obtain ⟨r, hr, rfl, q0, y0⟩ := hrel
        by_cases hrl : r < MM
        · have g2 : decide ((r : Int) < (MM : Int)) = true := decide_eq_true (by omega)
          go_wp2
          go_loopw [17] (fun u wr => ∃ q : Nat, q ≤ NN r ∧ u = .int .i64 q ∧ WrA wr G w2.heap.size MM AA NN CC ∧ Below w2.heap.size w2 wr) (fun u _ => NN r - (intOf u).toNat)
          case atStart => exact ⟨0, by omega, rfl, q0, y0⟩
          case round =>
            clear q0 y0
            obtain ⟨q, hq, rfl, q0, y0⟩ := hrel
            obtain ⟨dV, hV⟩ := q0.2 r hrl
            have hnn := HNN2.out r
            unfold maxLen at hnn
            by_cases hql : q < NN r
            · have g3 : decide ((q : Int) < (NN r : Int)) = true := decide_eq_true (by omega)
              obtain ⟨g, hA, hgN, hrw⟩ := hV (by omega)
              rw [hA] at dV
              obtain ⟨⟨u, e0⟩, f0⟩ := hrw.cell hql
              go_wp2
              exact ⟨⟨q + 1, by omega, by go_num, q0.set hrw _ _, y0.setCell (p := ⟨g, q, none⟩) hgN _⟩, by simp [intOf]; omega⟩
            · have g3 : decide ((q : Int) < (NN r : Int)) = false := decide_eq_false (by omega)
              clear hV
              go_wp2
              exact ⟨⟨r + 1, by omega, rfl, q0, y0⟩, by simp [intOf]; omega⟩
        · obtain rfl : r = MM := by omega
          have g2 : decide ((r : Int) < (r : Int)) = false := decide_eq_false (by omega)
          have rx := RX.out _ y0
          have rc := RC.out _ y0
          have b9 := b1.trans (y0.mono b1.size)
          clear q0 y0 RX RC b1
          go_wp2_with (first
            | (go_at_call 39; (with_reducible refine (HSP.out _ _ _ rx.at).mono ?_); rintro e wa ⟨Aa, ca, pa, rfl, -, -, -, la, ba⟩; replace rx := rx.below ba; replace rc := rc.below ba; replace b9 := b9.trans (ba.mono b9.size); clear ba)
            | (go_at_call 26; (with_reducible refine (HWI.out _ _ _ rx.at).mono ?_); rintro e wb ⟨Ab, cb, csb, rfl, ob, Rb, bb⟩; rw [Hp.out] at ob; rw [Hp.out]; have rb := rows_at Rb ob; replace rx := rx.below bb; replace rc := rc.below bb; replace la := la.below bb; replace b9 := b9.trans (bb.mono b9.size); clear bb ob Rb)
            | (go_at_call 29; first
              | ((with_reducible refine (HTX.out _ _ _ _ _ rx.at rc.at).mono ?_); rintro e wc ⟨rfl, bc⟩; replace rc := rc.below bc; replace la := la.below bc; replace rb := rb.below bc; replace b9 := b9.trans (bc.mono b9.size); clear bc rx)
              | ((with_reducible refine (HTW.out _ _ _ _ _ rb rd).mono ?_); rintro e wd ⟨rfl, bd⟩; replace b9 := b9.trans (bd.mono b9.size); clear bd))
            | (go_at_call 41; (with_reducible refine (HLA.out _ _ _ _ _ rc la).mono ?_); rintro e we ⟨rfl, be⟩; replace rc := rc.below be; replace rb := rb.below be; replace b9 := b9.trans (be.mono b9.size); clear be)
            | (go_at_call 30; (with_reducible refine (HRW.out _ _ _ rc).mono ?_); rintro e wf ⟨Af, cf, csf, rfl, of, Rf, bf⟩; have rd := rows_at Rf of; replace rb := rb.below bf; replace b9 := b9.trans (bf.mono b9.size); clear bf of Rf)
            | (go_at_call 21; refine (awake_any _).mono ?_; rintro e wg ⟨rfl, bg⟩; replace b9 := b9.trans (bg.mono b9.size)))
          go_ret
          exact ⟨rfl, b9⟩
theorem PostsOwn_any (n0 : Int) (A : Option Addr) (c : Nat) (L : List (List Int)) (w : World) (_hx : L.length ≤ c) (_hc : c ≤ maxLen) (ha : RowsIn w A L) :
    Calls Try.prog 16 #[.int .i64 n0, .slice A L.length c] w fun e w' => e = .returned (.bool true) ∧ Below w.heap.size w w' := by
  have hm := modI_lt n0 (n := 6) (by omega)
  obtain ⟨p, hp⟩ : ∃ p, modI n0 6 = p := ⟨_, rfl⟩
  rw [hp] at hm
  have I := lvT_ok L (n := p + 1) (by omega) (min L.length 9) (by omega)
  have hlev := isLev_of I.isT I.lev
  have HLV := Lib.hid ((level47_any A c L (p + 1) w (by omega) (by omega) ha).mono (fun e w' ⟨B, c', cs, h1, h2, h3, _, h5⟩ => (⟨B, c', cs, h1, h2, h3, h5⟩ : TabR (p + 1) (lvT L (p + 1) (min L.length 9)) w e w')))
  generalize lvT L (p + 1) (min L.length 9) = T at *
  have hT := I.isT
  have hTl := I.len
  have F := spf hT hlev
  have hWl : (wo T 0 0).length = p := by rw [wo_len 0 (by omega)]; omega
  have hWT := wo_isT hT (r := 0) (c := 0) (by omega) (by omega)
  refine pow_walk n0 A L.length c p (spL T (lvN T)).length w T (wo T 0 0) (spL T (lvN T)) (by omega) hTl hWl F.l90
    (Lib.hid (fun V => hp ▸ mod_any n0 6 V (by omega) (by omega))) HLV (Lib.hid (fun V A c h => ?_)) (Lib.hid (fun V A c h => ?_)) (Lib.hid (fun V A c h => ?_)) (Lib.hid (fun V A c h => ?_)) (Lib.hid (fun V A B c d h1 h2 => ?_)) (Lib.hid (fun V A B c d h1 h2 => ?_)) (Lib.hid (fun V A c h => ?_)) (Lib.hid (fun V A B c d h1 h2 => ?_))
  · have h := table_any A c T V (by rw [hTl]; unfold maxLen; omega) h
    rw [tbR_all hT, show min T.length 11 = p + 1 by omega, hTl] at h
    exact h
  · rw [← hTl]; exact cho_any A c T V hT h
  · rw [← hTl]; exact spl_any A c T V hT hlev h
  · rw [← hTl]
    exact Without_yes A c T 0 0 V hT (by omega) (by omega) h
  · exact tables_yes A B c d T (p + 1) V hTl (by omega) (fun i hi => by rw [hT.row i (by omega)]; omega) h1 h2
  · have h := refLayers_any A B c d T _ V hT (by have := F.l90; omega) h1 h2
    rw [F.spl, hTl] at h
    exact h
  · have h := refWithout_any A c T 0 0 V hT (by omega) (by omega) h
    rw [hTl, hWl] at h
    exact h
  · exact tables_yes A B c d (wo T 0 0) p V hWl (by omega) (fun i hi => by rw [hWT.row i (by omega)]; omega) h1 h2
end Go.Proofs.Ytnnaaoobdofooaa
