/- Lists of the call's own, joined and cut, whether nil or not: laws for the walk. -/
import Derived.Test.YtignbpipdfjkeaaDoorAW
import Derived.Laws.AppendOwnNone
namespace Go.Proofs.YtignbpipdfjkeaaDoor
open Go.RowKit
set_option maxHeartbeats 1000000
set_option maxRecDepth 100000
/-- append(s, x...) where s is the call's own and x is nil or not. -/
theorem wpList_append_x {P : Program} {w : World} {ops : Array Oper} {rest : List Oper} {o : Oper} {a : Act} {Q : Exit → Act → World → Prop} (hgd : o.guard = none) (s x : Operand) (t : TypeId)
    (ho : o.op = .call { callee := .builtin .append, args := #[s, x], argTypes := #[t, t] })
    (base : Nat) (e : TypeId) (i : TypeInfo) (z : Value) (size bytes : Nat) (ht : P.underlying t = some (.slice e)) (hi : P.info? e = some i) (hz : i.zero = some z)
    (hsize : i.size = size) (hby : i.bytes = bytes) (hzs : z.cells.size = size) (hsz : 0 < size)
    (v : Value) (n : Nat) (xs : List Value) (hs : a.eval s = v) (hown : w.ownsRow base e size v n xs)
    (A : Option Addr) (m c : Nat) (news : List Value) (hx : a.eval x = .slice A m c) (hA : A = none → m = 0 ∧ c = 0) (hl : news.length = m * size) (hnews : ∀ ad, A = some ad → ∀ j u, news[j]? = some u → w.cell? (ad.add j) = some u) (h1 : ∀ u ∈ news, u.oneCell' = true)
    (h63 : n + m ≤ maxLen) (hbytes : (n + m) * bytes ≤ 140737488355328) (hbase : base ≤ w.heap.size)
    (h : ∀ v' w', w'.ownsRow base e size v' (n + m) (xs ++ news) → w.grownBy w' v.ownBlock → wpList P ops Q rest (a.put o.dst v') w') :
    wpList P ops Q (o :: rest) a w := by
  cases A with
  | none =>
    obtain ⟨rfl, rfl⟩ := hA rfl
    obtain rfl : news = [] := List.eq_nil_of_length_eq_zero (by rw [hl, Nat.zero_mul])
    refine wpList_append_own_none hgd s x t ho base e i size ht hi v n xs hs hown hx (h v w ?_ ?_)
    · rw [List.append_nil, Nat.add_zero]; exact hown
    · exact ⟨rfl, rfl, rfl, Nat.le_refl _, fun _ _ _ => rfl⟩
  | some ad => exact wpList_append_own_at _ hgd s x t ho base e i z size bytes ht hi hz hsize hby hzs hsz v n xs hs hown ad m c news hx hl (hnews ad rfl) h1 h63 hbytes hbase (fun v' w' h2 h3 _ _ => h v' w' h2 h3)
theorem elem29 : Tryd.prog.elem 29 = 3 := by kernel_rfl
/-- A list of numbers that is nil or begins at a block's place. -/
def Lst (w : World) (A : Option Addr) (c : Nat) (xs : List Int) : Prop := xs.length ≤ c ∧ (A = none → xs.length = 0 ∧ c = 0) ∧ (∀ ad, A = some ad → ∃ b o, ad = ⟨b, o, none⟩ ∧ b < w.heap.size) ∧ ∀ ad, A = some ad → ∀ j u, (iv xs)[j]? = some u → w.cell? (ad.add j) = some u
theorem sliced_none (l h m s : Nat) : sliced none l h m s = .slice none (h - l) (m - l) := by unfold sliced; split <;> rfl
theorem Lst.low {w : World} {A : Option Addr} {c : Nat} {xs : List Int} (h : Lst w A c xs) {l : Nat} (hl : l ≤ xs.length) :
    ∃ A2, Lst w A2 (c - l) (xs.drop l) ∧ ∀ V : World, (Instr.sliceAt 29 (.slice A xs.length c) (some (.int .i64 l)) none none).run Tryd.prog V = .ok (.slice A2 (xs.length - l) (c - l)) V := by
  obtain ⟨j0, ji, jz0, jz1, jz2⟩ := info_parts info3
  obtain ⟨h1, h2, h3, h4⟩ := h
  have hrun : ∀ V : World, (Instr.sliceAt 29 (.slice A xs.length c) (some (.int .i64 l)) none none).run Tryd.prog V = .ok (sliced A l xs.length c 1) V := fun V => by
    rw [run_sliceAt_slice _ _ _ _ _ _ (by rw [elem29]; exact Tryd.underlying29), run_slice_l (ht := by rw [elem29]; exact Tryd.underlying29) (h0 := by omega) (h1 := by omega), elem29]
    simp [run_sizeOf, ji, Tryd.cells3]
  cases A with
  | none =>
    obtain ⟨e1, e2⟩ := h2 rfl
    refine ⟨none, ⟨by rw [List.length_drop]; omega, fun _ => ⟨by rw [List.length_drop]; omega, by omega⟩, fun ad e => (by cases e), fun ad e => (by cases e)⟩, fun V => ?_⟩
    rw [hrun, sliced_none]
  | some ad =>
    obtain ⟨b, o, rfl, hb⟩ := h3 ad rfl
    by_cases e : c = l
    · refine ⟨some ⟨b, o, none⟩, ⟨by rw [List.length_drop]; omega, fun e => (by cases e), fun ad e => ⟨b, o, (by cases e; rfl), hb⟩, fun ad e1 j u hu => ?_⟩, fun V => ?_⟩
      · rw [List.drop_of_length_le (by omega)] at hu
        simp [iv] at hu
      · rw [hrun]; unfold sliced; rw [if_pos e]
    · refine ⟨some ⟨b, o + l, none⟩, ⟨by rw [List.length_drop]; omega, fun e => (by cases e), fun ad e => ⟨b, o + l, (by cases e; rfl), hb⟩, fun ad e1 j u hu => ?_⟩, fun V => ?_⟩
      · cases e1
        have := h4 _ rfl (l + j) u (by
          unfold iv at hu ⊢
          rw [List.getElem?_map] at hu ⊢
          rw [List.getElem?_drop] at hu
          exact hu)
        rw [WideShapes.add_plain] at this ⊢
        rw [show o + l + j = o + (l + j) by omega]
        exact this
      · rw [hrun]; unfold sliced; rw [if_neg e]; simp [Addr.add]
theorem Lst.high {w : World} {A : Option Addr} {c : Nat} {xs : List Int} (h : Lst w A c xs) {l : Nat} (hl : l ≤ xs.length) :
    Lst w A c (xs.take l) ∧ ∀ V : World, (Instr.sliceAt 29 (.slice A xs.length c) none (some (.int .i64 l)) none).run Tryd.prog V = .ok (.slice A l c) V := by
  obtain ⟨j0, ji, jz0, jz1, jz2⟩ := info_parts info3
  obtain ⟨h1, h2, h3, h4⟩ := h
  have hrun : ∀ V : World, (Instr.sliceAt 29 (.slice A xs.length c) none (some (.int .i64 l)) none).run Tryd.prog V = .ok (sliced A 0 l c 1) V := fun V => by
    rw [run_sliceAt_slice _ _ _ _ _ _ (by rw [elem29]; exact Tryd.underlying29), run_slice_h (ht := by rw [elem29]; exact Tryd.underlying29) (h0 := by omega) (h2 := by omega), elem29]
    simp [run_sizeOf, ji, Tryd.cells3]
  refine ⟨⟨by rw [List.length_take]; omega, fun e => by rw [List.length_take]; have := h2 e; omega, h3, fun ad e j u hu => h4 ad e j u ?_⟩, fun V => ?_⟩
  · unfold iv at hu ⊢
    rw [List.getElem?_map] at hu ⊢
    rw [List.getElem?_take] at hu
    by_cases hj : j < l
    · rw [if_pos hj] at hu; exact hu
    · rw [if_neg hj] at hu; cases hu
  · rw [hrun]
    unfold sliced
    cases A with
    | none => simp
    | some ad =>
      obtain ⟨b, o, rfl, hb⟩ := h3 ad rfl
      simp [Addr.add]
theorem own_lst {w : World} {b n : Nat} {v : Value} {xs : List Int} (h : w.ownsRow b 3 1 v n (iv xs)) : ∃ A c, v = .slice A xs.length c ∧ n = xs.length ∧ Lst w A c xs := by
  obtain ⟨A, c, rfl, hn, hc, -⟩ := own_intsI h
  refine ⟨A, c, rfl, hn, hc, fun e => ?_, fun ad e => ?_, fun ad e j u hu => ?_⟩
  · subst e
    rcases h.2 with ⟨e, -⟩ | ⟨g, cap, cur, e, -⟩
    · injection e with e1 e2 e3; exact ⟨e2, e3⟩
    · injection e with e1; cases e1
  · subst e
    rcases h.2 with ⟨e, -⟩ | ⟨g, cap, cur, e, -⟩
    · injection e with e1; cases e1
    · injection e with e1; injection e1 with e1; refine ⟨g, 0, e1, ?_⟩
      obtain ⟨cs, h7⟩ := (own_ge h (g := g) (by subst e1; rfl)).2.2
      exact (Array.getElem?_eq_some_iff.1 h7).1
  · subst e
    rcases h.2 with ⟨e, -⟩ | ⟨g, cap, cur, e, -⟩
    · injection e with e1; cases e1
    · injection e with e1 e2 e3
      injection e1 with e1
      subst e1
      have := h.cells (g := g) rfl j u hu
      exact this
theorem Lst.below {w V : World} {A : Option Addr} {c : Nat} {xs : List Int} (h : Lst w A c xs) (hb : Below w.heap.size w V) : Lst V A c xs := by
  obtain ⟨h1, h2, h3, h4⟩ := h
  refine ⟨h1, h2, fun ad e => ?_, fun ad e j u hu => ?_⟩
  · obtain ⟨b, o, h5, h6⟩ := h3 ad e
    exact ⟨b, o, h5, Nat.lt_of_lt_of_le h6 hb.size⟩
  · obtain ⟨b, o, rfl, h6⟩ := h3 ad e
    have := h4 _ e j u hu
    rw [WideShapes.add_plain] at this ⊢
    exact (hb.cell (p := ⟨b, _, none⟩) h6).trans this
end Go.Proofs.YtignbpipdfjkeaaDoor
