/- Level tables: the order by insertion, lists joined and cut, the walk of level -/
import Derived.Test.YtnnaaoobdofooaaXD
import Derived.Test.YtnnaaoobdofooaaSK
import Derived.Laws.AppendOwnNone
import Derived.Test.YtnnaaoobdofooaaXC
/- A level table out of any lists: mathematics. -/
namespace Go.Proofs.Ytnnaaoobdofooaa
open Go.RowKit
set_option maxHeartbeats 1000000
theorem colsOk_of {n : Nat} {xs : List Int} (hl : xs.length = n) (hb : ∀ i, i < n → 0 ≤ geti xs i ∧ geti xs i < n) (hd : ∀ i j, i < n → j < i → geti xs i ≠ geti xs j) : colsOk n xs = true := by
  have hcg : ∀ k, k ≤ n → cg n xs k = true := fun k => by
    induction k with
    | zero => intro _; rfl
    | succ k ih =>
      intro hk
      have h1 := hb k (by omega)
      refine cg_yes (ih (by omega)) h1.1 h1.2 ?_
      cases hbt : (cs xs k).testBit (geti xs k).toNat
      · rfl
      · obtain ⟨j, hj, e⟩ := cs_bit hbt
        have h2 := hb j (by omega)
        exact absurd (show geti xs k = geti xs j by omega) (hd k j (by omega) hj)
  unfold colsOk
  rw [hl, hcg n (Nat.le_refl _)]; simp
/-- Where the next number goes. -/
def atK (row : List Int) (k : Nat) : Nat := if k < row.length then modI (geti row k) (k + 1) else k
theorem atK_le (row : List Int) (k : Nat) : atK row k ≤ k := by
  unfold atK
  split
  · have := modI_lt (geti row k) (show 0 < k + 1 by omega); omega
  · omega
/-- The order that a list makes. -/
def ordK (row : List Int) : Nat → List Int
  | 0 => []
  | k + 1 => (ordK row k).take (atK row k) ++ (k : Int) :: (ordK row k).drop (atK row k)
theorem ordK_len (row : List Int) : ∀ k, (ordK row k).length = k
  | 0 => rfl
  | k + 1 => by
    have h := ordK_len row k
    have h2 := atK_le row k
    unfold ordK
    rw [List.length_append, List.length_cons, List.length_take, List.length_drop, h]
    omega
theorem geti_ins {o : List Int} {a : Nat} (ha : a ≤ o.length) (x : Int) (i : Nat) : geti (o.take a ++ x :: o.drop a) i = if i < a then geti o i else if i = a then x else geti o (i - 1) := by
  unfold geti
  simp only [List.getD_eq_getElem?_getD]
  have hta : (o.take a).length = a := by rw [List.length_take]; omega
  by_cases h1 : i < a
  · rw [if_pos h1, List.getElem?_append_left (by omega), List.getElem?_take_of_lt h1]
  · rw [if_neg h1, List.getElem?_append_right (by omega), hta]
    by_cases h2 : i = a
    · rw [if_pos h2, h2, Nat.sub_self]; rfl
    · rw [if_neg h2, show i - a = (i - 1 - a) + 1 by omega, List.getElem?_cons_succ, List.getElem?_drop, show a + (i - 1 - a) = i - 1 by omega]
theorem ordK_ok (row : List Int) : ∀ k, (∀ i, i < k → 0 ≤ geti (ordK row k) i ∧ geti (ordK row k) i < k) ∧ ∀ i j, i < k → j < i → geti (ordK row k) i ≠ geti (ordK row k) j
  | 0 => ⟨fun i hi => absurd hi (by omega), fun i j hi => absurd hi (by omega)⟩
  | k + 1 => by
    obtain ⟨h1, h2⟩ := ordK_ok row k
    have hl := ordK_len row k
    have ha := atK_le row k
    have e : ∀ i, geti (ordK row (k + 1)) i = if i < atK row k then geti (ordK row k) i else if i = atK row k then (k : Int) else geti (ordK row k) (i - 1) := fun i => geti_ins (by omega) _ i
    refine ⟨fun i hi => ?_, fun i j hi hj => ?_⟩
    · rw [e]
      split
      · have := h1 i (by omega); omega
      · split
        · omega
        · have := h1 (i - 1) (by omega); omega
    · rw [e, e]
      by_cases c1 : i < atK row k
      · rw [if_pos c1, if_pos (show j < atK row k by omega)]; exact h2 i j (by omega) hj
      · rw [if_neg c1]
        by_cases c2 : i = atK row k
        · rw [if_pos c2, if_pos (show j < atK row k by omega)]
          have := h1 j (by omega); omega
        · rw [if_neg c2]
          have hi1 := h1 (i - 1) (by omega)
          by_cases c3 : j < atK row k
          · rw [if_pos c3]; exact h2 (i - 1) j (by omega) (by omega)
          · rw [if_neg c3]
            by_cases c4 : j = atK row k
            · rw [if_pos c4]; omega
            · rw [if_neg c4]; exact h2 (i - 1) (j - 1) (by omega) (by omega)
theorem ordK_cols (row : List Int) (n : Nat) : colsOk n (ordK row n) = true := colsOk_of (ordK_len row n) (ordK_ok row n).1 (ordK_ok row n).2
/-- The table after so many lists. -/
def lvT (L : List (List Int)) (n : Nat) : Nat → List (List Int)
  | 0 => List.replicate n (List.replicate n 0)
  | i + 1 => subP (lvT L n i) (-1) (ordK (getl L i) n) n
theorem isLev_of {K : List (List Int)} (h : IsT K) {lv : Int} (hl : Lev K lv) : isLev K = true := by
  have hle := h.le
  have cut : ∀ g : Nat → Int, (∀ j, K.length ≤ j → g j = 0) → sumN g 10 = sumN g K.length := fun g hg => by
    have := sumN_cut hg (10 - K.length)
    rwa [show K.length + (10 - K.length) = 10 by omega] at this
  have e1 : ∀ i, i < K.length → rsum K i 10 = lv := fun i hi => by rw [rsum_sumN, cut _ (fun j hj => h.zero (Or.inr hj)), hl.row i hi]
  have e2 : ∀ i, i < K.length → csum K i 10 = lv := fun i hi => by rw [csum_sumN, cut _ (fun j hj => h.zero (Or.inl hj)), hl.col i hi]
  unfold isLev
  simp only [List.all_eq_true, List.mem_range, Bool.and_eq_true, decide_eq_true_eq]
  intro i hi
  have h0 := e1 0 (by omega)
  exact ⟨by rw [e1 i hi, h0], by rw [e2 i hi, h0]⟩
structure LvI (K : List (List Int)) (n i : Nat) : Prop where
  isT : IsT K
  len : K.length = n
  lev : Lev K i
  few : ∀ r c, gat K r c ≤ i
theorem lvT_ok (L : List (List Int)) {n : Nat} (hn : n ≤ 10) : ∀ i, i ≤ 9 → LvI (lvT L n i) n i
  | 0, _ => by
    have hg : ∀ r c, gat (List.replicate n (List.replicate n (0 : Int))) r c = 0 := fun r c => by
      unfold gat getl geti
      simp only [List.getD_eq_getElem?_getD, List.getElem?_replicate]
      split
      · simp only [Option.getD_some, List.getElem?_replicate]
        split <;> rfl
      · rfl
    show LvI (List.replicate n (List.replicate n 0)) n 0
    refine ⟨okT_iff.1 (okT_all (by rw [List.length_replicate]; exact hn) (fun r hr => ⟨?_, fun c _ => ?_⟩)), List.length_replicate, ⟨fun i _ => ?_, fun i _ => ?_⟩, fun r c => ?_⟩
    · rw [List.length_replicate] at hr ⊢
      unfold getl
      rw [List.getD_eq_getElem?_getD, List.getElem?_replicate, if_pos hr]; simp
    · rw [hg]; decide
    · rw [sumN_congr (fun c _ => hg i c), sumN_zero]; rfl
    · rw [sumN_congr (fun c _ => hg c i), sumN_zero]; rfl
    · rw [hg]; omega
  | i + 1, hi => by
    have I := lvT_ok L hn i (by omega)
    have hc : colsOk (lvT L n i).length (ordK (getl L i) n) = true := by rw [I.len]; exact ordK_cols _ n
    have hg := fun r c => subP_gat (wt := -1) I.isT.row hc (lvT L n i).length (Nat.le_refl _) r c
    have hl := sub_lev (wt := -1) I.isT I.lev hc
    have hr := subP_row I.isT.row (-1) (ordK (getl L i) n) (lvT L n i).length (Nat.le_refl _)
    have e : lvT L n (i + 1) = subP (lvT L n i) (-1) (ordK (getl L i) n) (lvT L n i).length := by rw [I.len]; rfl
    rw [e]
    have hbd : ∀ r c, 0 ≤ gat (subP (lvT L n i) (-1) (ordK (getl L i) n) (lvT L n i).length) r c ∧ gat (subP (lvT L n i) (-1) (ordK (getl L i) n) (lvT L n i).length) r c ≤ ((i + 1 : Nat) : Int) := fun r c => by
      have h1 := I.few r c
      have h2 := (I.isT.bd r c).1
      rw [hg]
      split <;> omega
    refine ⟨okT_iff.1 (okT_all (by rw [subP_len]; exact I.isT.le) (fun r hr2 => ?_)), by rw [subP_len]; exact I.len, ?_, fun r c => (hbd r c).2⟩
    · rw [subP_len] at hr2 ⊢
      refine ⟨hr r hr2, fun c _ => ?_⟩
      have := hbd r c
      omega
    · have e2 : (i : Int) - -1 = ((i + 1 : Nat) : Int) := by omega
      rwa [e2] at hl
end Go.Proofs.Ytnnaaoobdofooaa
/- Lists of the call's own, joined and cut, whether nil or not: laws for the walk. -/
namespace Go.Proofs.Ytnnaaoobdofooaa
open Go.RowKit
set_option maxHeartbeats 1000000
set_option maxRecDepth 100000
/-- append(s, x...) where s is the call's own and x is nil or not. -/
theorem wpList_append_x {P : Program} {w : World} {ops : Array Oper} {rest : List Oper} {o : Oper} {a : Act} {Q : Exit → Act → World → Prop} (hgd : o.guard = none) (s x : Operand) (t : TypeId)
    (ho : o.op = .call { callee := .builtin .append, args := #[s, x], argTypes := #[t, t] })
    (base : Nat) (e : TypeId) (i : TypeInfo) (z : Value) (size bytes : Nat) (ht : P.underlying t = some (.slice e)) (hi : P.info? e = some i) (hz : i.zero = some z)
    (hsize : i.size = size) (hby : i.bytes = bytes) (hzs : z.cells.size = size) (hsz : 0 < size)
    (v : Value) (n : Nat) (xs : List Value) (hs : a.eval s = v) (hown : w.ownsRow base e size v n xs)
    (A : Option Addr) (m c : Nat) (news : List Value) (hx : a.eval x = .slice A m c) (hA : A = none → m = 0 ∧ c = 0) (hl : news.length = m * size) (hnews : ∀ ad, A = some ad → ∀ j u, news[j]? = some u → w.cell? (ad.add j) = some u) (h1 : ∀ u ∈ news, u.oneCell' = true)
    (h63 : n + m ≤ maxLen) (hbytes : (n + m) * bytes ≤ 140737488355328) (hbase : base ≤ w.heap.size)
    (h : ∀ v' w', w'.ownsRow base e size v' (n + m) (xs ++ news) → w.grownBy w' v.ownBlock → wpList P ops Q rest (a.put o.dst v') w') :
    wpList P ops Q (o :: rest) a w := by
  cases A with
  | none =>
    obtain ⟨rfl, rfl⟩ := hA rfl
    obtain rfl : news = [] := List.eq_nil_of_length_eq_zero (by rw [hl, Nat.zero_mul])
    refine wpList_append_own_none hgd s x t ho base e i size ht hi v n xs hs hown hx (h v w ?_ ?_)
    · rw [List.append_nil, Nat.add_zero]; exact hown
    · exact ⟨rfl, rfl, rfl, Nat.le_refl _, fun _ _ _ => rfl⟩
  | some ad => exact wpList_append_own_at _ hgd s x t ho base e i z size bytes ht hi hz hsize hby hzs hsz v n xs hs hown ad m c news hx hl (hnews ad rfl) h1 h63 hbytes hbase (fun v' w' h2 h3 _ _ => h v' w' h2 h3)
theorem elem27L : Try.prog.elem 27 = 3 := by kernel_rfl
/-- A list of numbers that is nil or begins at a block's place. -/
def Lst (w : World) (A : Option Addr) (c : Nat) (xs : List Int) : Prop := xs.length ≤ c ∧ (A = none → xs.length = 0 ∧ c = 0) ∧ (∀ ad, A = some ad → ∃ b o, ad = ⟨b, o, none⟩ ∧ b < w.heap.size) ∧ ∀ ad, A = some ad → ∀ j u, (iv xs)[j]? = some u → w.cell? (ad.add j) = some u
theorem sliced_none (l h m s : Nat) : sliced none l h m s = .slice none (h - l) (m - l) := by unfold sliced; split <;> rfl
theorem Lst.low {w : World} {A : Option Addr} {c : Nat} {xs : List Int} (h : Lst w A c xs) {l : Nat} (hl : l ≤ xs.length) :
    ∃ A2, Lst w A2 (c - l) (xs.drop l) ∧ ∀ V : World, (Instr.sliceAt 27 (.slice A xs.length c) (some (.int .i64 l)) none none).run Try.prog V = .ok (.slice A2 (xs.length - l) (c - l)) V := by
  obtain ⟨j0, ji, jz0, jz1, jz2⟩ := info_parts info3
  obtain ⟨h1, h2, h3, h4⟩ := h
  have hrun : ∀ V : World, (Instr.sliceAt 27 (.slice A xs.length c) (some (.int .i64 l)) none none).run Try.prog V = .ok (sliced A l xs.length c 1) V := fun V => by
    rw [run_sliceAt_slice _ _ _ _ _ _ (by rw [elem27L]; exact Try.underlying27), run_slice_l (ht := by rw [elem27L]; exact Try.underlying27) (h0 := by omega) (h1 := by omega), elem27L]
    simp [run_sizeOf, ji, Try.cells3]
  cases A with
  | none =>
    obtain ⟨e1, e2⟩ := h2 rfl
    refine ⟨none, ⟨by rw [List.length_drop]; omega, fun _ => ⟨by rw [List.length_drop]; omega, by omega⟩, fun ad e => (by cases e), fun ad e => (by cases e)⟩, fun V => ?_⟩
    rw [hrun, sliced_none]
  | some ad =>
    obtain ⟨b, o, rfl, hb⟩ := h3 ad rfl
    by_cases e : c = l
    · refine ⟨some ⟨b, o, none⟩, ⟨by rw [List.length_drop]; omega, fun e => (by cases e), fun ad e => ⟨b, o, (by cases e; rfl), hb⟩, fun ad e1 j u hu => ?_⟩, fun V => ?_⟩
      · rw [List.drop_of_length_le (by omega)] at hu
        simp [iv] at hu
      · rw [hrun]; unfold sliced; rw [if_pos e]
    · refine ⟨some ⟨b, o + l, none⟩, ⟨by rw [List.length_drop]; omega, fun e => (by cases e), fun ad e => ⟨b, o + l, (by cases e; rfl), hb⟩, fun ad e1 j u hu => ?_⟩, fun V => ?_⟩
      · cases e1
        have := h4 _ rfl (l + j) u (by
          unfold iv at hu ⊢
          rw [List.getElem?_map] at hu ⊢
          rw [List.getElem?_drop] at hu
          exact hu)
        rw [WideShapes.add_plain] at this ⊢
        rw [show o + l + j = o + (l + j) by omega]
        exact this
      · rw [hrun]; unfold sliced; rw [if_neg e]; simp [Addr.add]
theorem Lst.high {w : World} {A : Option Addr} {c : Nat} {xs : List Int} (h : Lst w A c xs) {l : Nat} (hl : l ≤ xs.length) :
    Lst w A c (xs.take l) ∧ ∀ V : World, (Instr.sliceAt 27 (.slice A xs.length c) none (some (.int .i64 l)) none).run Try.prog V = .ok (.slice A l c) V := by
  obtain ⟨j0, ji, jz0, jz1, jz2⟩ := info_parts info3
  obtain ⟨h1, h2, h3, h4⟩ := h
  have hrun : ∀ V : World, (Instr.sliceAt 27 (.slice A xs.length c) none (some (.int .i64 l)) none).run Try.prog V = .ok (sliced A 0 l c 1) V := fun V => by
    rw [run_sliceAt_slice _ _ _ _ _ _ (by rw [elem27L]; exact Try.underlying27), run_slice_h (ht := by rw [elem27L]; exact Try.underlying27) (h0 := by omega) (h2 := by omega), elem27L]
    simp [run_sizeOf, ji, Try.cells3]
  refine ⟨⟨by rw [List.length_take]; omega, fun e => by rw [List.length_take]; have := h2 e; omega, h3, fun ad e j u hu => h4 ad e j u ?_⟩, fun V => ?_⟩
  · unfold iv at hu ⊢
    rw [List.getElem?_map] at hu ⊢
    rw [List.getElem?_take] at hu
    by_cases hj : j < l
    · rw [if_pos hj] at hu; exact hu
    · rw [if_neg hj] at hu; cases hu
  · rw [hrun]
    unfold sliced
    cases A with
    | none => simp
    | some ad =>
      obtain ⟨b, o, rfl, hb⟩ := h3 ad rfl
      simp [Addr.add]
theorem own_lst {w : World} {b n : Nat} {v : Value} {xs : List Int} (h : w.ownsRow b 3 1 v n (iv xs)) : ∃ A c, v = .slice A xs.length c ∧ n = xs.length ∧ Lst w A c xs := by
  obtain ⟨A, c, rfl, hn, hc, -⟩ := own_intsI h
  refine ⟨A, c, rfl, hn, hc, fun e => ?_, fun ad e => ?_, fun ad e j u hu => ?_⟩
  · subst e
    rcases h.2 with ⟨e, -⟩ | ⟨g, cap, cur, e, -⟩
    · injection e with e1 e2 e3; exact ⟨e2, e3⟩
    · injection e with e1; cases e1
  · subst e
    rcases h.2 with ⟨e, -⟩ | ⟨g, cap, cur, e, -⟩
    · injection e with e1; cases e1
    · injection e with e1; injection e1 with e1; refine ⟨g, 0, e1, ?_⟩
      obtain ⟨cs, h7⟩ := (own_ge h (g := g) (by subst e1; rfl)).2.2
      exact (Array.getElem?_eq_some_iff.1 h7).1
  · subst e
    rcases h.2 with ⟨e, -⟩ | ⟨g, cap, cur, e, -⟩
    · injection e with e1; cases e1
    · injection e with e1 e2 e3
      injection e1 with e1
      subst e1
      have := h.cells (g := g) rfl j u hu
      exact this
theorem Lst.below {w V : World} {A : Option Addr} {c : Nat} {xs : List Int} (h : Lst w A c xs) (hb : Below w.heap.size w V) : Lst V A c xs := by
  obtain ⟨h1, h2, h3, h4⟩ := h
  refine ⟨h1, h2, fun ad e => ?_, fun ad e j u hu => ?_⟩
  · obtain ⟨b, o, h5, h6⟩ := h3 ad e
    exact ⟨b, o, h5, Nat.lt_of_lt_of_le h6 hb.size⟩
  · obtain ⟨b, o, rfl, h6⟩ := h3 ad e
    have := h4 _ e j u hu
    rw [WideShapes.add_plain] at this ⊢
    exact (hb.cell (p := ⟨b, _, none⟩) h6).trans this
end Go.Proofs.Ytnnaaoobdofooaa
/- Level tables made from any list of lists. -/
namespace Go.Proofs.Ytnnaaoobdofooaa
open Go.RowKit
set_option maxHeartbeats 1000000
set_option maxRecDepth 100000
theorem rep_snoc {α : Type} (k : Nat) (x : α) : List.replicate (k + 1) x = List.replicate k x ++ [x] := by rw [List.replicate_succ']
theorem level47_any (A : Option Addr) (c : Nat) (L : List (List Int)) (n : Nat) (w : World) (hn1 : 1 ≤ n) (hn : n ≤ 10) (ha : RowsIn w A L) :
    Calls Try.prog 47 #[.slice A L.length c, .int .i64 n] w fun e w' => ∃ B c' cs, e = .returned (.slice B n c') ∧ w'.ownsRow w.heap.size 27 1 (.slice B n c') n cs ∧ RowsOwn w' w.heap.size cs (lvT L n (min L.length 9)) ∧ Apt cs ∧ Below w.heap.size w w' := by
  obtain ⟨k0, ki, kz0, kz1, kz2⟩ := info_parts info27
  obtain ⟨j0, ji, jz0, jz1, jz2⟩ := info_parts info3
  have HA := Lib.hid ha
  have b0 := Below.refl w.heap.size w
  have o0 : w.ownsRow w.heap.size 27 1 (.slice none 0 0) 0 [] := ⟨rfl, .inl ⟨rfl, rfl⟩⟩
  have R0 : Hid (RowsOwn w w.heap.size ([] : List Value) (List.replicate 0 (List.replicate n 0))) := Lib.hid ⟨rfl, fun j hj => absurd hj (by simp)⟩
  have P0 : Hid (Apt []) := Lib.hid (fun i j u v g _ h => by simp at h)
  have hmk := make_ints n (by omega)
  clear ha
  go_enter Try.func47, Try.ntmps47
  go_wp2
  go_loopw [5, 6] (fun v i wr => ∃ (k : Nat) (cs : List Value), k ≤ n ∧ i = .int .i64 k ∧ wr.ownsRow w.heap.size 27 1 v k cs ∧ Hid (RowsOwn wr w.heap.size cs (List.replicate k (List.replicate n 0))) ∧ Hid (Apt cs) ∧ Below w.heap.size w wr) (fun _ i _ => n - (intOf i).toNat)
  case atStart => exact ⟨0, [], by omega, rfl, o0, R0, P0, b0⟩
  case round =>
    clear o0 R0 b0 P0
    obtain ⟨i, cs, hi, rfl, o0, HR, HP, b0⟩ := hrel
    obtain ⟨A2, c2, rfl⟩ := own_head o0
    by_cases hlt : i < n
    · have g1 : decide ((i : Int) < (n : Int)) = true := decide_eq_true (by omega)
      have HO := Lib.hid o0
      have hbs := b0.size
      clear o0
      have n0 : Row (wr.alloc (.cells (iv (List.replicate n 0)).toArray 3)) wr.heap.size 3 (iv (List.replicate n 0)) := row_new rfl
      have z0 : Below wr.heap.size wr (wr.alloc (.cells (iv (List.replicate n 0)).toArray 3)) := (Below.refl _ _).alloc (Nat.le_refl _) _
      have RO := row_own n0 (Nat.le_refl wr.heap.size) (by rw [List.length_replicate]; unfold maxLen; omega)
      rw [List.length_replicate] at RO
      have PX := Lib.hid (HP.out.add HR.out RO)
      have O4 := Lib.hid (HO.out.kept' z0)
      have hz := z0.size
      have RX : Hid (RowsOwn (wr.alloc (.cells (iv (List.replicate n 0)).toArray 3)) w.heap.size (cs ++ [.slice (some ⟨wr.heap.size, 0, none⟩) n n]) (List.replicate (i + 1) (List.replicate n 0))) := Lib.hid (by rw [rep_snoc]; exact (HR.out.below z0).add (r := List.replicate n 0) (by rw [List.length_replicate]; exact own_mono RO hbs))
      have hnr : Row ((wr.alloc (.cells (iv (List.replicate n 0)).toArray 3)).alloc (.cells #[.slice (some ⟨wr.heap.size, 0, none⟩) n n] 27)) (wr.heap.size + 1) 27 [.slice (some ⟨wr.heap.size, 0, none⟩) n n] := row_new (by simp)
      have bW := b0.trans (z0.mono hbs)
      clear RO n0 HR HP HO
      go_wp2_with (at_builtin; refine wpList_append_own_at _ rfl _ _ 22 rfl w.heap.size 27 k0 (.slice none 0 0) 1 24 Try.underlying22 ki kz0 kz1 kz2 rfl (by decide) _ _ _ rfl (O4.out.alloc _) ⟨wr.heap.size + 1, 0, none⟩ 1 1 [.slice (some ⟨wr.heap.size, 0, none⟩) n n] rfl rfl (news_one hnr) (by simp [Value.oneCell']) (by unfold maxLen; omega) (by omega) (by simp; omega) ?_; intro v9 w9 o9 hg9 _ _)
      have b9 := bW.trans (app1' O4.out (by omega) hg9)
      have R9 := Lib.hid ((RX.out.below ((Below.refl _ _).alloc (Nat.le_refl _) _)).grown (O4.out.alloc _) (by decide) hg9)
      go_roundw
      case rel => exact ⟨i + 1, _, by omega, by go_num, o9, R9, PX, b9⟩
      case measure => simp [intOf]; omega
    · obtain rfl : i = n := by omega
      have g1 : decide ((i : Int) < (i : Int)) = false := decide_eq_false (by omega)
      go_wp2
      have HO := Lib.hid o0
      have HRR : Hid (RowsOwn wr w.heap.size cs (lvT L i 0)) := HR
      clear o0 HR hi
      go_loopw [7] (fun v wr2 => ∃ k : Nat, k ≤ min L.length 9 ∧ v = .int .i64 k ∧ Hid (wr2.ownsRow w.heap.size 27 1 (.slice A2 i c2) i cs) ∧ Hid (RowsOwn wr2 w.heap.size cs (lvT L i k)) ∧ Below w.heap.size w wr2) (fun v _ => min L.length 9 - (intOf v).toNat)
      case atStart => exact ⟨0, by omega, rfl, HO, HRR, b0⟩
      case round =>
        clear HO HRR b0
        obtain ⟨k, hk, rfl, HO, HR, b0⟩ := hrel
        by_cases hkm : k < min L.length 9
        · have hkl : k < L.length := by omega
          have g1 : decide ((k : Int) < (L.length : Int)) = true := decide_eq_true (by omega)
          have g2 : decide ((k : Int) < 9) = true := decide_eq_true (by omega)
          obtain ⟨W, hW⟩ : ∃ W, W = wr := ⟨_, rfl⟩
          subst hW
          have z0 := Below.refl W.heap.size W
          have hbs := b0.size
          have n0 : W.ownsRow W.heap.size 3 1 (.slice none 0 0) 0 (iv (ordK (getl L k) 0)) := ⟨rfl, .inl ⟨rfl, rfl⟩⟩
          go_wp2
          go_loopw [8, 9] (fun v qv wr2 => ∃ q : Nat, q ≤ i ∧ qv = .int .i64 q ∧ wr2.ownsRow W.heap.size 3 1 v q (iv (ordK (getl L k) q)) ∧ Below W.heap.size W wr2) (fun _ qv _ => i - (intOf qv).toNat)
          case atStart => exact ⟨0, by omega, rfl, n0, z0⟩
          case round =>
            clear n0 z0
            obtain ⟨q, hq, rfl, n0, z0⟩ := hrel
            obtain ⟨A3, c3, rfl⟩ := own_head n0
            by_cases hqn : q < i
            · have g3 : decide ((q : Int) < (i : Int)) = true := decide_eq_true (by omega)
              obtain ⟨A', c', hv, -, L3⟩ := own_lst n0
              have hl := ordK_len (getl L k) q
              rw [hl] at hv
              injection hv with e1 e2 e3
              subst e1 e3
              have hao := atK_le (getl L k) q
              obtain ⟨LH, hsh⟩ := L3.high (l := atK (getl L k) q) (by rw [hl]; exact hao)
              obtain ⟨A4, LL, hsl⟩ := L3.low (l := atK (getl L k) q) (by rw [hl]; exact hao)
              rw [hl] at hsh hsl
              have hzs := z0.size
              have HO3 : Hid (∀ (V : World) v, V.ownsRow wr.heap.size 3 1 v (atK (getl L k) q + 1 + (q - atK (getl L k) q)) (iv ((ordK (getl L k) q).take (atK (getl L k) q)) ++ [.int .i64 (q : Int)] ++ iv ((ordK (getl L k) q).drop (atK (getl L k) q))) → V.ownsRow W.heap.size 3 1 v (q + 1) (iv (ordK (getl L k) (q + 1)))) := Lib.hid (fun V v h => by
                rw [show atK (getl L k) q + 1 + (q - atK (getl L k) q) = q + 1 by omega] at h
                have e : iv (ordK (getl L k) (q + 1)) = iv ((ordK (getl L k) q).take (atK (getl L k) q)) ++ [.int .i64 (q : Int)] ++ iv ((ordK (getl L k) q).drop (atK (getl L k) q)) := by
                  show iv ((ordK (getl L k) q).take (atK (getl L k) q) ++ (q : Int) :: (ordK (getl L k) q).drop (atK (getl L k) q)) = _
                  unfold iv; rw [List.map_append, List.map_cons, List.append_assoc]; rfl
                rw [e]
                exact own_mono h hzs)
              have HL1 : Hid (((ordK (getl L k) q).take (atK (getl L k) q)).length = atK (getl L k) q) := Lib.hid (by rw [List.length_take, hl]; omega)
              have HL2 : Hid (((ordK (getl L k) q).drop (atK (getl L k) q)).length = q - atK (getl L k) q) := Lib.hid (by rw [List.length_drop, hl])
              have HAT : Hid (atK (getl L k) q = if q < (getl L k).length then modI (geti (getl L k) q) (q + 1) else q) := Lib.hid rfl
              generalize (ordK (getl L k) q).take (atK (getl L k) q) = X at *
              generalize (ordK (getl L k) q).drop (atK (getl L k) q) = Z at *
              generalize atK (getl L k) q = a at *
              have HLH := Lib.hid LH
              have HLL := Lib.hid LL
              obtain ⟨c4, hc4⟩ : ∃ c4, c4 = c3 - a := ⟨_, rfl⟩
              rw [← hc4] at HLL hsl
              clear hc4 LH LL L3 hl n0 e2
              obtain ⟨bA, oA, hAe, hbA, hcs⟩ := ((HA.out.below b0).below z0) (by omega)
              subst hAe
              obtain ⟨B, cB, e1, -, -, i1⟩ := hcs k hkl
              by_cases hqr : q < (getl L k).length
              · have g4 : decide ((q : Int) < ((getl L k).length : Int)) = true := decide_eq_true (by omega)
                obtain ⟨bB, oB, rfl, -, f1⟩ := i1 (by omega)
                have e2 := f1 q hqr
                have hae := HAT.out
                rw [if_pos hqr] at hae
                have HM1 : Hid (∀ V : World, Calls Try.prog 43 #[.int .i64 (geti (getl L k) q), .int .i64 ((q : Int) + 1)] V fun e w' => e = .returned (.int .i64 a) ∧ V = w') := Lib.hid (fun V => by rw [hae]; exact mod_any (geti (getl L k) q) (q + 1) V (by omega) (by omega))
                clear hae HAT hcs i1 f1
                go_wp2_with (first
                  | (go_at_call 43; (with_reducible refine (HM1.out _).mono ?_); rintro e w5 ⟨rfl, rfl⟩)
                  | (at_builtin; refine wpList_append_x rfl (.tmp 57) (.tmp 60) 27 rfl wr.heap.size 3 j0 _ 1 8 Try.underlying27 ji jz0 jz1 jz2 rfl (by omega) (.slice none 0 0) 0 [] rfl ⟨by simp, .inl ⟨rfl, rfl⟩⟩ A3 a c3 (iv X) rfl (fun e => by rw [← HL1.out]; exact HLH.out.2.1 e) (by rw [iv_len, HL1.out]; try omega) HLH.out.2.2.2 (iv_one _) (by unfold maxLen; omega) (by omega) (Nat.le_refl _) ?_; intro v3 w4 o4 hg4; have b51 : Below wr.heap.size wr w4 := (Below.refl _ _).grown hg4 (Nat.le_refl _) (by simp [Value.ownBlock]); have O1 : Hid (w4.ownsRow wr.heap.size 3 1 v3 a (iv X)) := Lib.hid (by simpa using o4); have hb51 := b51.size; have hnr : Row (w4.alloc (.cells #[.int .i64 (q : Int)] 3)) w4.heap.size 3 [.int .i64 (q : Int)] := row_new rfl; clear o4 hg4)
                  | (at_builtin; refine wpList_append_own_at _ rfl (.tmp 62) (.tmp 64) 27 rfl wr.heap.size 3 j0 _ 1 8 Try.underlying27 ji jz0 jz1 jz2 rfl (by omega) _ a (iv X) rfl (O1.out.alloc _) ⟨w4.heap.size, 0, none⟩ 1 1 [.int .i64 (q : Int)] rfl rfl (news_one hnr) (by simp [Value.oneCell']) (by unfold maxLen; omega) (by omega) (by simp; omega) ?_; intro v5 w6 o5 hg5 _ _; have b52 : Below wr.heap.size wr w6 := b51.trans (app1' O1.out hb51 hg5); have hb52 := b52.size; have O2 := Lib.hid o5; have HLL2 := Lib.hid (HLL.out.below b52); clear o5 hg5)
                  | (at_builtin; refine wpList_append_x rfl (.tmp 66) (.tmp 69) 27 rfl wr.heap.size 3 j0 _ 1 8 Try.underlying27 ji jz0 jz1 jz2 rfl (by omega) _ (a + 1) _ rfl O2.out A4 (q - a) c4 (iv Z) rfl (fun e => by rw [← HL2.out]; exact HLL2.out.2.1 e) (by rw [iv_len, HL2.out]; try omega) HLL2.out.2.2.2 (iv_one _) (by unfold maxLen; omega) (by omega) hb52 ?_; intro v7 w7 o7 hg7; have b53 : Below wr.heap.size wr w7 := b52.trans ((Below.refl wr.heap.size _).grown hg7 hb52 (fun g hg => (own_ge O2.out hg).1)); have o9 := HO3.out _ _ o7; clear o7 hg7))
                go_roundw
                case rel => exact ⟨q + 1, by omega, by go_num, o9, z0.trans (b53.mono hzs)⟩
                case measure => simp [intOf]; omega
              · have g4 : decide ((q : Int) < ((getl L k).length : Int)) = false := decide_eq_false (by omega)
                have hae := HAT.out
                rw [if_neg hqr] at hae
                subst hae
                rw [Nat.sub_self] at hsl HO3 HL2
                clear HAT hcs i1
                go_wp2_with (first
                  | (at_builtin; refine wpList_append_x rfl (.tmp 57) (.tmp 60) 27 rfl wr.heap.size 3 j0 _ 1 8 Try.underlying27 ji jz0 jz1 jz2 rfl (by omega) (.slice none 0 0) 0 [] rfl ⟨by simp, .inl ⟨rfl, rfl⟩⟩ A3 a c3 (iv X) rfl (fun e => by rw [← HL1.out]; exact HLH.out.2.1 e) (by rw [iv_len, HL1.out]; try omega) HLH.out.2.2.2 (iv_one _) (by unfold maxLen; omega) (by omega) (Nat.le_refl _) ?_; intro v3 w4 o4 hg4; have b51 : Below wr.heap.size wr w4 := (Below.refl _ _).grown hg4 (Nat.le_refl _) (by simp [Value.ownBlock]); have O1 : Hid (w4.ownsRow wr.heap.size 3 1 v3 a (iv X)) := Lib.hid (by simpa using o4); have hb51 := b51.size; have hnr : Row (w4.alloc (.cells #[.int .i64 (a : Int)] 3)) w4.heap.size 3 [.int .i64 (a : Int)] := row_new rfl; clear o4 hg4)
                  | (at_builtin; refine wpList_append_own_at _ rfl (.tmp 62) (.tmp 64) 27 rfl wr.heap.size 3 j0 _ 1 8 Try.underlying27 ji jz0 jz1 jz2 rfl (by omega) _ a (iv X) rfl (O1.out.alloc _) ⟨w4.heap.size, 0, none⟩ 1 1 [.int .i64 (a : Int)] rfl rfl (news_one hnr) (by simp [Value.oneCell']) (by unfold maxLen; omega) (by omega) (by simp; omega) ?_; intro v5 w6 o5 hg5 _ _; have b52 : Below wr.heap.size wr w6 := b51.trans (app1' O1.out hb51 hg5); have hb52 := b52.size; have O2 := Lib.hid o5; have HLL2 := Lib.hid (HLL.out.below b52); clear o5 hg5)
                  | (at_builtin; refine wpList_append_x rfl (.tmp 66) (.tmp 69) 27 rfl wr.heap.size 3 j0 _ 1 8 Try.underlying27 ji jz0 jz1 jz2 rfl (by omega) _ (a + 1) _ rfl O2.out A4 0 c4 (iv Z) rfl (fun e => ⟨rfl, (HLL2.out.2.1 e).2⟩) (by rw [iv_len, HL2.out]; try omega) HLL2.out.2.2.2 (iv_one _) (by unfold maxLen; omega) (by omega) hb52 ?_; intro v7 w7 o7 hg7; have b53 : Below wr.heap.size wr w7 := b52.trans ((Below.refl wr.heap.size _).grown hg7 hb52 (fun g hg => (own_ge O2.out hg).1)); have o9 := HO3.out _ _ o7; clear o7 hg7))
                go_roundw
                case rel => exact ⟨a + 1, by omega, by go_num, o9, z0.trans (b53.mono hzs)⟩
                case measure => simp [intOf]; omega
            · obtain rfl : q = i := by omega
              have g3 : decide ((q : Int) < (q : Int)) = false := decide_eq_false (by omega)
              go_wp2
              have HO2 := Lib.hid (HO.out.kept' z0)
              have HR2 : Hid (RowsOwn wr w.heap.size cs (subP (lvT L q k) (-1) (ordK (getl L k) q) 0)) := Lib.hid (HR.out.below z0)
              have I := lvT_ok L hn k (by omega)
              have hxs := ordK_cols (getl L k) q
              have HG := Lib.hid (fun r (hr : r < q) => subP_own (wt := -1) (xs := ordK (getl L k) q) I.isT.row (by rw [I.len]; exact hxs) (k := r) (by rw [I.len]; exact hr))
              have HX := Lib.hid (fun r (hr : r < q) => cols_at hxs hr)
              have HB := Lib.hid (fun r c => I.few r c)
              have HB0 := Lib.hid (fun r c => (I.isT.bd r c).1)
              have HLN : Hid (∀ j, (subP (lvT L q k) (-1) (ordK (getl L k) q) j).length = q) := Lib.hid (fun j => by rw [subP_len]; exact I.len)
              have HRW : Hid (∀ j, j ≤ q → ∀ r, r < q → (getl (subP (lvT L q k) (-1) (ordK (getl L k) q) j) r).length = q) := Lib.hid (fun j hj r hr => by
                have := subP_row I.isT.row (-1) (ordK (getl L k) q) j (by rw [I.len]; exact hj) r (by rw [I.len]; exact hr)
                rwa [I.len] at this)
              have HST : Hid (∀ j, subP (lvT L q k) (-1) (ordK (getl L k) q) (j + 1) = setT (subP (lvT L q k) (-1) (ordK (getl L k) q) j) j (geti (ordK (getl L k) q) j).toNat (gat (subP (lvT L q k) (-1) (ordK (getl L k) q) j) j (geti (ordK (getl L k) q) j).toNat - -1)) := Lib.hid (fun _ => rfl)
              have HGW : Hid (∀ (r g c l : Nat), cs[r]? = some (Value.slice (some ⟨g, 0, none⟩) l c) → g < W.heap.size) := Lib.hid (fun r g c l (h : cs[r]? = some (Value.slice (some ⟨g, 0, none⟩) l c)) => (rows_blk HR.out h rfl).2)
              have b4 := b0.trans (z0.mono hbs)
              obtain ⟨g5, c5, hA2, -, -, -⟩ := own_frm HO.out (by omega)
              injection hA2 with hA2 q1 q2
              clear q1 q2
              subst hA2
              obtain ⟨g3, c3', hA3, hg3, -, -⟩ := own_frm n0 (by omega)
              injection hA3 with hA3 q1 q2
              clear q1 q2
              subst hA3
              have HN0 := Lib.hid n0
              clear HR HO I hxs n0 z0 b0
              go_loopw [12] (fun v wr2 => ∃ r : Nat, r ≤ q ∧ v = .int .i64 r ∧ Hid (wr2.ownsRow w.heap.size 27 1 (.slice (some ⟨g5, 0, none⟩) q c2) q cs) ∧ Hid (RowsOwn wr2 w.heap.size cs (subP (lvT L q k) (-1) (ordK (getl L k) q) r)) ∧ Hid (wr2.ownsRow W.heap.size 3 1 (.slice (some ⟨g3, 0, none⟩) q c3) q (iv (ordK (getl L k) q))) ∧ Below w.heap.size w wr2) (fun v _ => q - (intOf v).toNat)
              case atStart => exact ⟨0, by omega, rfl, HO2, HR2, HN0, b4⟩
              case round =>
                clear HO2 HR2 HN0 b4
                obtain ⟨r, hr, rfl, HO, HR, HN, b4⟩ := hrel
                by_cases hrq : r < q
                · have g4 : decide ((r : Int) < (q : Int)) = true := decide_eq_true (by omega)
                  obtain ⟨g5', c5', e5, -, -, hc5⟩ := own_frm HO.out (by omega)
                  injection e5 with e5 q1 q2
                  clear q1 q2
                  injection e5 with e5
                  injection e5 with e5 q1 q2
                  clear q1 q2
                  subst e5
                  obtain ⟨g3', c3'', e3, -, -, hc3⟩ := own_frm HN.out (by omega)
                  injection e3 with e3 q1 q2
                  clear q1 q2
                  injection e3 with e3
                  injection e3 with e3 q1 q2
                  clear q1 q2
                  subst e3
                  have f1 := hc3 r (.int .i64 (geti (ordK (getl L k) q) r)) (by unfold iv; rw [List.getElem?_map, List.getElem?_eq_getElem (by rw [ordK_len]; exact hrq), geti_eq (by rw [ordK_len]; exact hrq)]; rfl)
                  obtain ⟨hx0, hx1⟩ := HX.out r hrq
                  have HG1 := Lib.hid (HG.out r hrq)
                  have HS1 := Lib.hid (HST.out r)
                  generalize geti (ordK (getl L k) q) r = x at *
                  obtain ⟨X, rfl⟩ : ∃ X : Nat, x = X := ⟨x.toNat, by omega⟩
                  rw [Int.toNat_natCast] at HG1 HS1
                  obtain ⟨g, cg, cur, hcs, hgB, hgh, hcell, hfz, -⟩ := HR.out.put HP.out (r := r) (k := X) (by rw [HLN.out]; exact hrq) (by rw [HRW.out r (by omega) r hrq]; omega)
                  have hgW := HGW.out r g cg _ hcs
                  have f2 := hc5 r _ hcs
                  rw [HRW.out r (by omega) r hrq] at f2
                  rw [show geti (getl (subP (lvT L q k) (-1) (ordK (getl L k) q) r) r) X = gat (subP (lvT L q k) (-1) (ordK (getl L k) q) r) r X from rfl, HG1.out] at hcell
                  rw [HG1.out] at HS1
                  have hy1 := HB.out r X
                  have hy0 := HB0.out r X
                  have HCS := Lib.hid hcs
                  have HHG := Lib.hid hgh
                  clear hc3 hc5 HG1 hcs hgh
                  generalize gat (lvT L q k) r X = y at *
                  go_wp2
                  refine wp_region_quiet_tail 14 (by kernel_rfl) (by kernel_rfl) ?_
                  simp only [List.take_succ_cons, List.take_zero, List.drop_succ_cons, List.drop_zero]
                  repeat go_big_quiet_step ((fail))
                  refine wpQuiet_nil ?_
                  rintro _ ⟨nq, rfl⟩
                  go_wp2
                  obtain ⟨g', cg', cur', hcs', -, -, -, -, hput⟩ := (HR.out.below (below_drewN (w := wr) nq)).put HP.out (r := r) (k := X) (by rw [HLN.out]; exact hrq) (by rw [HRW.out r (by omega) r hrq]; omega)
                  rw [HCS.out] at hcs'
                  injection hcs' with hcs'
                  injection hcs' with hcs' q1 q2
                  clear q1 q2
                  injection hcs' with hcs'
                  injection hcs' with hcs' q1 q2
                  clear q1 q2
                  subst hcs'
                  have hp := hput (y - -1)
                  rw [← HS1.out] at hp
                  have ey : y + 1 = y - -1 := by omega
                  rw [ey]
                  refine ⟨⟨r + 1, by omega, by go_num, Lib.hid (own_far_t (HO.out.kept' (below_drewN nq)) (by decide) HHG.out), Lib.hid hp, Lib.hid (own_far (HN.out.kept' (below_drewN nq)) (by simp [Value.ownBlock]; omega)), (b4.trans (below_drewN nq)).setCell hgB _⟩, by simp [intOf]; omega⟩
                · obtain rfl : r = q := by omega
                  have g4 : decide ((r : Int) < (r : Int)) = false := decide_eq_false (by omega)
                  go_wp2
                  go_roundw
                  case rel => exact ⟨k + 1, by omega, by go_num, HO, HR, b4⟩
                  case measure => simp [intOf]; omega
        · have HE : Hid (¬ (k < L.length ∧ k < 9)) := Lib.hid (by omega)
          obtain rfl : k = min L.length 9 := by omega
          by_cases hkl : min L.length 9 < L.length
          · have h9 : min L.length 9 = 9 := by omega
            rw [h9] at *
            have g1 : decide (((9 : Nat) : Int) < (L.length : Int)) = true := decide_eq_true (by omega)
            go_wp2
            go_ret
            first | exact ⟨_, _, _, rfl, HO.out, HR.out, HP.out, b0⟩ | exact ⟨_, _, rfl, _, HO.out, HR.out, HP.out, b0⟩
          · have g1 : decide (((min L.length 9 : Nat) : Int) < (L.length : Int)) = false := decide_eq_false (by omega)
            go_wp2
            go_ret
            exact ⟨_, _, _, rfl, HO.out, HR.out, HP.out, b0⟩
end Go.Proofs.Ytnnaaoobdofooaa
