/- Words in their order; merging again and again; before, Greedy; the reference's Apart and Greedy. -/
import Derived.Test.YtignbpipdfjkeaaDoorCC
import Derived.Test.YtignbpipdfjkeaaDoorBE
import Derived.Test.YtignbpipdfjkeaaDoorAP
/- Words in their order; merging again and again. -/
namespace Go.Proofs.YtignbpipdfjkeaaDoor
open Go.RowKit Go.PlainAid
set_option maxHeartbeats 2000000
set_option maxRecDepth 100000
theorem wS_list (x : List Nat) : (wS x).toList = x.map fun b => UInt8.ofNat (97 + b) := by
  rw [ByteArray.toList_eq]
  unfold wS wI
  rw [strOfNums_data, List.map_map]
  refine List.map_congr_left (fun b _ => ?_)
  show UInt8.ofNat (97 + (b : Int)).toNat = _
  congr 1
theorem vw_fold : ∀ (x : List Nat) (a : Nat), x.foldl (fun a b => 4 * a + b + 1) a = a * 4 ^ x.length + vw x
  | [], a => by simp [vw]
  | b :: x, a => by
    have e1 : vw (b :: x) = x.foldl (fun a b => 4 * a + b + 1) (4 * 0 + b + 1) := rfl
    rw [e1, List.foldl_cons, vw_fold x, vw_fold x, List.length_cons, Nat.pow_succ]
    generalize 4 ^ x.length = E
    have h1 : (4 * a + b + 1) * E = a * (E * 4) + (4 * 0 + b + 1) * E := by
      rw [show 4 * a + b + 1 = a * 4 + (b + 1) by omega, show 4 * 0 + b + 1 = b + 1 by omega, Nat.add_mul, Nat.mul_assoc, Nat.mul_comm 4 E]
    omega
theorem vw_cons (b : Nat) (x : List Nat) : vw (b :: x) = (b + 1) * 4 ^ x.length + vw x := by
  have h := vw_fold x (4 * 0 + b + 1)
  have e1 : vw (b :: x) = x.foldl (fun a b => 4 * a + b + 1) (4 * 0 + b + 1) := rfl
  rw [e1, h, show 4 * 0 + b + 1 = b + 1 by omega]
theorem okW_cons {k b : Nat} {x : List Nat} (h : okW k (b :: x)) : b < k ∧ okW k x := ⟨h b (by simp), fun c hc => h c (by simp [hc])⟩
/-- A word that comes before in the order of words comes before in the order of strings. -/
theorem less_vw : ∀ (x y : List Nat), okW 4 x → okW 4 y → x.length = y.length → Op.bytesLess (x.map fun b => UInt8.ofNat (97 + b)) (y.map fun b => UInt8.ofNat (97 + b)) = true → vw x < vw y
  | [], [], _, _, _, h => by cases h
  | [], _ :: _, _, _, h, _ => by cases h
  | _ :: _, [], _, _, h, _ => by cases h
  | a :: x, b :: y, hx, hy, hl, h => by
    obtain ⟨ha, ox⟩ := okW_cons hx
    obtain ⟨hb, oy⟩ := okW_cons hy
    clear hx hy
    have hl' : x.length = y.length := by simpa using hl
    have hn : ∀ c, c < 4 → (UInt8.ofNat (97 + c)).toNat = 97 + c := fun c hc => by simp [UInt8.toNat_ofNat]; omega
    rw [vw_cons, vw_cons, hl']
    have e : (decide (UInt8.ofNat (97 + a) < UInt8.ofNat (97 + b)) || (UInt8.ofNat (97 + a) == UInt8.ofNat (97 + b) && Op.bytesLess (x.map fun b => UInt8.ofNat (97 + b)) (y.map fun b => UInt8.ofNat (97 + b)))) = true := h
    rw [Bool.or_eq_true, Bool.and_eq_true, decide_eq_true_eq, beq_iff_eq, UInt8.lt_iff_toNat_lt, hn a ha, hn b hb] at e
    rcases e with h1 | ⟨h1, h2⟩
    · obtain ⟨-, l2⟩ := vw_len _ x rfl ox
      obtain ⟨l3, -⟩ := vw_len _ y rfl oy
      rw [hl', Nat.pow_succ] at l2
      have h3 : (a + 1) * 4 ^ y.length + 4 ^ y.length ≤ (b + 1) * 4 ^ y.length := by
        have h4 := Nat.mul_le_mul_right (4 ^ y.length) (show a + 1 + 1 ≤ b + 1 by omega)
        rwa [Nat.add_mul (a + 1) 1, Nat.one_mul] at h4
      omega
    · have hab : a = b := by
        have := congrArg UInt8.toNat h1
        rw [hn a ha, hn b hb] at this
        omega
      subst hab
      have := less_vw x y ox oy hl' h2
      omega
theorem bl_total : ∀ (a b : List UInt8), a.length = b.length → Op.bytesLess a b = false → a ≠ b → Op.bytesLess b a = true := by
  intro a
  induction a with
  | nil => intro b hl _ hne; cases b with
    | nil => exact absurd rfl hne
    | cons _ _ => cases hl
  | cons p a ih =>
    intro b hl h1 hne
    cases b with
    | nil => cases hl
    | cons q b =>
      have e1 : (decide (p < q) || (p == q && Op.bytesLess a b)) = false := h1
      show (decide (q < p) || (q == p && Op.bytesLess b a)) = true
      rw [Bool.or_eq_false_iff, decide_eq_false_iff_not] at e1
      by_cases hpq : p = q
      · subst hpq
        rw [beq_self_eq_true, Bool.true_and] at e1 ⊢
        rw [ih b (by simpa using hl) e1.2 (fun e => hne (by rw [e])), Bool.or_true]
      · have : q < p := by
          rw [UInt8.lt_iff_toNat_lt] at e1 ⊢
          have h3 : ¬ p.toNat = q.toNat := fun e => hpq (UInt8.toNat_inj.1 e)
          have h4 := e1.1
          omega
        rw [decide_eq_true this, Bool.true_or]
theorem later_no {x y : List Nat} (hx : okW 4 x) (hy : okW 4 y) (h : vw x ≤ vw y) : ltrB (wS x) (wS y) = false := by
  have hl := vw_le_len hx hy h
  unfold ltrB
  rw [wS_len, wS_len, decide_eq_false (by omega), Bool.false_or]
  by_cases e : x.length = y.length
  · rw [decide_eq_true e, Bool.true_and, wS_list, wS_list]
    cases h1 : Op.bytesLess (x.map fun b => UInt8.ofNat (97 + b)) (y.map fun b => UInt8.ofNat (97 + b))
    · cases h2 : (x.map fun b => UInt8.ofNat (97 + b)) == (y.map fun b => UInt8.ofNat (97 + b))
      · exfalso
        have hne : ¬ (x.map fun b => UInt8.ofNat (97 + b)) = (y.map fun b => UInt8.ofNat (97 + b)) := beq_eq_false_iff_ne.1 h2
        have := less_vw y x hy hx e.symm (bl_total _ _ (by simp [e]) h1 hne)
        omega
      · rfl
    · rfl
  · rw [decide_eq_false e, Bool.false_and]
theorem later_yes {x y : List Nat} (hx : okW 4 x) (hy : okW 4 y) (h : vw y < vw x) : ltrB (wS x) (wS y) = true := by
  have hl := vw_le_len hy hx (Nat.le_of_lt h)
  unfold ltrB
  rw [wS_len, wS_len]
  by_cases e : x.length = y.length
  · rw [decide_eq_true e, Bool.true_and, wS_list, wS_list]
    have h1 : Op.bytesLess (x.map fun b => UInt8.ofNat (97 + b)) (y.map fun b => UInt8.ofNat (97 + b)) = false := by
      rw [Bool.eq_false_iff]
      intro h1
      have := less_vw x y hx hy e h1
      omega
    have h2 : ((x.map fun b => UInt8.ofNat (97 + b)) == (y.map fun b => UInt8.ofNat (97 + b))) = false := by
      rw [beq_eq_false_iff_ne]
      intro h2
      have e2 : wS x = wS y := by
        apply ByteArray.ext
        apply Array.toList_inj.1
        rw [← ByteArray.toList_eq, ← ByteArray.toList_eq, wS_list, wS_list, h2]
      have : x = y := by
        refine List.ext_getElem e (fun i h3 h4 => ?_)
        have h5 := bt_wS hx h3
        have h6 := bt_wS hy h4
        rw [e2, h6, List.getD_eq_getElem?_getD, List.getD_eq_getElem?_getD, List.getElem?_eq_getElem h3, List.getElem?_eq_getElem h4] at h5
        simp at h5
        omega
      subst this
      omega
    rw [h1, h2]; simp
  · rw [decide_eq_true (by omega), Bool.true_or]
theorem later_iff {x y : List Nat} (hx : okW 4 x) (hy : okW 4 y) : ltrB (wS x) (wS y) = decide (vw y < vw x) := by
  by_cases h : vw y < vw x
  · rw [decide_eq_true h]; exact later_yes hx hy h
  · rw [decide_eq_false h]; exact later_no hx hy (by omega)
variable {T : Tab} {k n : Nat}
/-- If an image is smaller, two states of the set merge. -/
theorem less_pair (hM : IsM T k n) {s : Nat} {x : List Nat} (hs : IsS n s) (hx : okW k x) (h : szS (img T s x) < szS s) : ∃ p q, p ∈ bitsS s ∧ q ∈ bitsS s ∧ p ≠ q ∧ runS T p x = runS T q x := by
  refine Classical.byContradiction (fun hc => ?_)
  have := nd_sub (l := (bitsS s).map fun q => runS T q x) (m := bitsS (img T s x)) (by
    rw [List.pairwise_map]
    exact List.Pairwise.imp_of_mem (fun {a b} ha hb hab e => hc ⟨a, b, ha, hb, hab, e⟩) (bits_nd s)) (fun j hj => by
    obtain ⟨q, hq, e⟩ := List.mem_map.1 hj
    exact (img_mem hM x hs hx).2 ⟨q, hq, e⟩)
  rw [List.length_map] at this
  unfold szS at h
  omega
/-- Merging again and again. -/
def gr (T : Tab) (k : Nat) : Nat → Nat → List Nat → Option (List Nat)
  | 0, _, x => some x
  | f + 1, s, x => if 1 < szS s then (match seek T k s (few (szS s - 1)) with
    | none => none
    | some (t, y) => gr T k f t (x ++ y)) else some x
theorem gr_end {s : Nat} {x : List Nat} (h : szS s ≤ 1) : ∀ f, gr T k f s x = some x
  | 0 => rfl
  | f + 1 => by unfold gr; rw [if_neg (by omega)]
theorem gr_go {f s : Nat} {x : List Nat} (h : 1 < szS s) : gr T k (f + 1) s x = match seek T k s (few (szS s - 1)) with
    | none => none
    | some (t, y) => gr T k f t (x ++ y) := by conv => lhs; unfold gr; rw [if_pos h]
theorem seek_facts (hM : IsM T k n) {s m t : Nat} {y : List Nat} (hs : IsS n s) (h0 : s ≠ 0) (h : seek T k s (few m) = some (t, y)) :
    okW k y ∧ img T s y = t ∧ szS t ≤ m ∧ y.length ≤ 512 ∧ IsS n t ∧ t ≠ 0 ∧ ∀ v, okW k v → szS (img T s v) ≤ m → vw y ≤ vw v := by
  obtain ⟨h1, h2, h3, h4⟩ := seek_some hM hs h
  unfold few at h3 h4
  refine ⟨h1, h2, of_decide_eq_true h3, ?_, by rw [← h2]; exact img_set hM hs h1, by rw [← h2]; exact img_ne hM hs h0 h1, fun v hv hm => h4 v hv (decide_eq_true hm)⟩
  have hm := reach_met hM hs
  have hl : (reach T k s).length ≤ 512 := by
    have := nodup_len 512 ((reach T k s).map (·.1)) (fun x hx => by
      obtain ⟨e, he, rfl⟩ := List.mem_map.1 hx
      obtain ⟨h1, h2⟩ := hm.im e.1 e.2 he
      have h3 := img_set hM hs h1
      rw [h2] at h3
      exact set512 hM.n9 h3) (by rw [List.pairwise_map]; exact hm.nd)
    simpa using this
  unfold seek at h
  obtain ⟨j, hj, e⟩ := List.getElem_of_mem (List.mem_of_find?_eq_some h)
  have ej : elS (reach T k s) j = (t, y) := by
    unfold elS; rw [List.getD_eq_getElem?_getD, List.getElem?_eq_getElem hj, e]; rfl
  have := reach_wl T k s j hj
  rw [ej] at this
  simp only at this
  omega
theorem gr_some (hM : IsM T k n) : ∀ (f s : Nat) (x R : List Nat), szS s ≤ f + 1 → IsS n s → s ≠ 0 → gr T k f s x = some R → ∃ y, R = x ++ y ∧ okW k y ∧ szS (img T s y) ≤ 1
  | 0, s, x, R, hf, _, _, h => by
    have : x = R := by simpa [gr] using h
    exact ⟨[], by rw [this, List.append_nil], fun _ hb => absurd hb (List.not_mem_nil), hf⟩
  | f + 1, s, x, R, hf, hs, h0, h => by
    by_cases h1 : 1 < szS s
    · rw [gr_go h1] at h
      rcases e : seek T k s (few (szS s - 1)) with _ | ⟨t, y⟩
      · rw [e] at h; cases h
      · rw [e] at h
        obtain ⟨a1, a2, a3, -, a5, a6, -⟩ := seek_facts hM hs h0 e
        obtain ⟨z, b1, b2, b3⟩ := gr_some hM f t (x ++ y) R (by omega) a5 a6 h
        exact ⟨y ++ z, by rw [b1, List.append_assoc], okW_app.2 ⟨a1, b2⟩, by rw [img_app, a2]; exact b3⟩
    · rw [gr_end (by omega)] at h
      have : x = R := by simpa using h
      exact ⟨[], by rw [this, List.append_nil], fun _ hb => absurd hb (List.not_mem_nil), by show szS s ≤ 1; omega⟩
theorem gr_ok (hM : IsM T k n) (hall : ∀ p q, p < n → q < n → ∃ x, okW k x ∧ runS T p x = runS T q x) : ∀ (f s : Nat) (x : List Nat), szS s ≤ f + 1 → IsS n s → s ≠ 0 → (gr T k f s x).isSome = true
  | 0, s, x, _, _, _ => rfl
  | f + 1, s, x, hf, hs, h0 => by
    by_cases h1 : 1 < szS s
    · rw [gr_go h1]
      rcases e : seek T k s (few (szS s - 1)) with _ | ⟨t, y⟩
      · exfalso
        have hne : ¬ ∀ p q, p ∈ bitsS s → q ∈ bitsS s → p = q := fun e => by have := one_sz e; omega
        simp only [Classical.not_forall] at hne
        obtain ⟨p, q, hp, hq, hpq⟩ := hne
        obtain ⟨v, hv, ev⟩ := hall p q (bits_bound hs hp) (bits_bound hs hq)
        have := img_less hM hs hv hp hq hpq ev
        have h2 := (seek_none hM hs).1 e v hv
        unfold few at h2
        exact absurd (show szS (img T s v) ≤ szS s - 1 by omega) (of_decide_eq_false h2)
      · obtain ⟨a1, a2, a3, -, a5, a6, -⟩ := seek_facts hM hs h0 e
        exact gr_ok hM hall f t (x ++ y) (by omega) a5 a6
    · rw [gr_end (by omega)]; rfl
end Go.Proofs.YtignbpipdfjkeaaDoor
/- before; greedy and Greedy. -/
namespace Go.Proofs.YtignbpipdfjkeaaDoor
open Go.RowKit Go.PlainAid
set_option maxHeartbeats 2000000
set_option maxRecDepth 100000
def bfB (a b : ByteArray) : Bool := if a.size = b.size then Op.bytesLess a.toList b.toList else decide (a.size < b.size)
theorem before_any (a b : ByteArray) (w : World) : Calls Tryd.prog 58 #[.string a, .string b] w fun e w' => e = .returned (.bool (bfB a b)) ∧ w = w' := by
  by_cases h : a.size = b.size
  · have HB : Hid (bfB a b = Op.bytesLess a.toList b.toList) := Lib.hid (by unfold bfB; rw [if_pos h])
    have g1 : ((a.size : Int) != (b.size : Int)) = false := by simp [h]
    clear h
    go_enter Tryd.func58, Tryd.ntmps58
    go_wp2
    go_ret
    exact ⟨ret_bool (by rw [HB.out]), rfl⟩
  · have HB : Hid (bfB a b = decide (a.size < b.size)) := Lib.hid (by unfold bfB; rw [if_neg h])
    have g1 : ((a.size : Int) != (b.size : Int)) = true := by simp; omega
    clear h
    go_enter Tryd.func58, Tryd.ntmps58
    go_wp2
    go_ret
    exact ⟨ret_bool (by rw [HB.out]), rfl⟩
theorem bf_iff {x y : List Nat} (hx : okW 4 x) (hy : okW 4 y) : bfB (wS x) (wS y) = decide (vw x < vw y) := by
  have h1 := later_iff hy hx
  unfold bfB ltrB at *
  rw [wS_len, wS_len] at *
  by_cases e : x.length = y.length
  · rw [if_pos e]
    rw [decide_eq_false (by omega), Bool.false_or, decide_eq_true e.symm, Bool.true_and] at h1
    rw [← h1, wS_list, wS_list]
    cases h2 : Op.bytesLess (x.map fun b => UInt8.ofNat (97 + b)) (y.map fun b => UInt8.ofNat (97 + b))
    · by_cases h3 : (x.map fun b => UInt8.ofNat (97 + b)) = (y.map fun b => UInt8.ofNat (97 + b))
      · rw [h3, beq_self_eq_true]; simp
      · rw [bl_total _ _ (by simp [e]) h2 h3]; rfl
    · have h3 := less_vw x y hx hy e h2
      have h4 : Op.bytesLess (y.map fun b => UInt8.ofNat (97 + b)) (x.map fun b => UInt8.ofNat (97 + b)) = false := by
        rw [Bool.eq_false_iff]; intro h4
        have := less_vw y x hy hx e.symm h4
        omega
      have h5 : ((y.map fun b => UInt8.ofNat (97 + b)) == (x.map fun b => UInt8.ofNat (97 + b))) = false := by
        rw [beq_eq_false_iff_ne]; intro h5
        rw [h5] at h2
        rw [h5] at h4
        rw [h4] at h2
        cases h2
      rw [h4, h5]; rfl
  · rw [if_neg e, ← h1, decide_eq_false (show ¬ y.length = x.length from fun e2 => e e2.symm), Bool.false_and, Bool.or_false]
/-- The word of Greedy. -/
def grX (L : List (List Int)) : Option (List Nat) := gr (tabN L) L.length 8 (sAll (nS L)) []
def grV : Option (List Nat) → Value
  | none => .tuple #[.string ⟨#[]⟩, .bool false]
  | some x => .tuple #[.string (wS x), .bool true]
theorem greedy_any (L : List (List Int)) (w : World) (h : IsMI L) (ht : TabW w) :
    Calls Tryd.prog 56 #[.agg (iv (mc L)).toArray] w fun e w' => e = .returned (grV (grX L)) ∧ Below w.heap.size w w' := by
  have r0 : Row (w.alloc (.cells (iv (mc L)).toArray 76)) w.heap.size 76 (iv (mc L)) := row_new rfl
  have b0 : Below w.heap.size w (w.alloc (.cells (iv (mc L)).toArray 76)) := (Below.refl _ w).alloc (Nat.le_refl _) _
  have hi4 := hi76L L
  obtain ⟨hS, hN, h5⟩ := all_set h.n9
  have hM := h.isM
  have hn9 := h.n9
  have HA := Lib.hid (fun V => all_any L V h)
  have HF := Lib.hid (fun s m V (hs : IsS (nS L) s) (h0 : s ≠ 0) (hm : m < 100) (hV : Below w.heap.size w V) => searchFewer_any L s m V h hs h0 hm (ht.below hV ht.lt))
  have HSZ := Lib.hid (fun s V (hs : s < 512) => size71_any s V hs)
  obtain ⟨Z, hZ⟩ : ∃ Z, grX L = Z := ⟨_, rfl⟩
  have HZ0 : Hid (gr (tabN L) L.length 8 (sAll (nS L)) [] = Z) := Lib.hid hZ
  rw [hZ]
  have hs0 := hN h.n1
  have s9 := sz_le (sAll (nS L))
  have HSF := Lib.hid (fun s m t y (hs : IsS (nS L) s) (h0 : s ≠ 0) (e : seek (tabN L) L.length s (few m) = some (t, y)) => seek_facts hM hs h0 e)
  clear hZ h ht
  generalize sAll (nS L) = a at *
  generalize nS L = n at *
  generalize tabN L = T at *
  have h512 : ∀ s, IsS n s → s < 512 := fun s hs => set512 hn9 hs
  clear hM
  go_enter Tryd.func56, Tryd.ntmps56
  go_wp2_with (first
    | ((with_reducible refine (?_ : wpList _ _ _ (Oper.mk (some 9) _ _ _ _ _ :: _) _ _)); refine wpList_load_row rfl 76 (.tmp 1) rfl w.heap.size rfl 76 (iv (mc L)).toArray (0, 0) _ (row_heap r0) Tryd.underlying76 rfl hi4 ?_)
    | (go_at_call 52; refine (HA.out _).mono ?_; rintro e w1 ⟨rfl, b1⟩; replace r0 := r0.below b1; replace b0 := b0.trans (b1.mono b0.size)))
  go_loopw [4, 5] (fun o v wr => ∃ (f s : Nat) (x : List Nat), o = .string (wS x) ∧ v = .int .u16 s ∧ f ≤ 8 ∧ szS s ≤ f + 1 ∧ IsS n s ∧ s ≠ 0 ∧ x.length + f * 512 ≤ 4096 ∧ Row wr w.heap.size 76 (iv (mc L)) ∧ Below w.heap.size w wr ∧ Hid (gr T L.length f s x = Z)) (fun _ v _ => szS (intOf v).toNat)
  case atStart => exact ⟨8, a, [], rfl, rfl, by omega, by omega, hS, hs0, by simp, r0, b0, HZ0⟩
  case round =>
    clear r0 b0 HZ0 hS hs0 s9
    obtain ⟨f, s, x, rfl, rfl, hf, hsz, hs, h0, hx, r0, b0, HZ⟩ := hrel
    have s512 := h512 s hs
    have HZ1 := Lib.hid (fun V => HSZ.out s V s512)
    by_cases h1 : 1 < szS s
    · obtain ⟨g, rfl⟩ : ∃ g, f = g + 1 := ⟨f - 1, by omega⟩
      rw [gr_go h1] at HZ
      have s9 := sz_le s
      obtain ⟨z, hz⟩ : ∃ z, szS s = z := ⟨_, rfl⟩
      have HSS := Lib.hid (fun t y e => HSF.out s (z - 1) t y hs h0 e)
      have HFF := Lib.hid (fun V hV => HF.out s (z - 1) V hs h0 (by omega) hV)
      have HZE := Lib.hid hz
      rw [hz] at HZ HZ1 h1 hsz s9
      have e1 : ((z - 1 : Nat) : Int) = (z : Int) - 1 := by omega
      rw [e1] at HFF
      have g1 : decide ((1 : Int) < (z : Int)) = true := decide_eq_true (by omega)
      have g1' : decide (1 < z) = true := decide_eq_true h1
      clear HSF HF hz e1
      go_wp2_with (go_at_call 71; refine (HZ1.out _).mono ?_; rintro e _ ⟨rfl, nq, rfl⟩)
      replace r0 := r0.drewN nq
      replace b0 := b0.trans (below_drewN nq)
      generalize World.drewN wr nq = W at *
      have HZ2 : Hid (∀ u : After W, Calls Tryd.prog 71 #[.int .u16 s] u.v fun e w' => e = .returned (.int .i64 z) ∧ Below u.v.heap.size u.v w') := Lib.hid (fun u => (HZ1.out u.v).mono (fun e w' h => ⟨h.1, by obtain ⟨m, hm⟩ := h.2; rw [hm]; exact below_drewN m⟩))
      cases hX : seek T L.length s (few (z - 1)) with
      | none =>
        rw [hX] at HFF HZ
        have hzz : none = Z := HZ.out
        subst hzz
        have HF3 : Hid (∀ u : After W, Calls Tryd.prog 51 #[.agg (iv (mc L)).toArray, .int .u16 s, .int .i64 ((z : Int) - 1)] u.v fun e w' => e = .returned (.tuple #[.string ⟨#[]⟩, .int .u16 0, .bool false]) ∧ Below u.v.heap.size u.v w') := Lib.hid (fun u => HFF.out u.v (b0.trans (u.h.mono b0.size)))
        clear HFF HZ hX HSS HZ1
        refine wp_region_class_all (C := fun w' => ∃ u : After _, w' = u.v) (by kernel_rfl) (by kernel_rfl) (isAfter_start _) ?_
        try simp only [Act.put]
        repeat (first | ((with_reducible refine (?_ : wpQuiet _ _ _ _ (Oper.mk (some 15) _ _ _ _ _ :: _) _); go_big_quiet_want); refine quiet_load_row 76 (.tmp 1) rfl w.heap.size rfl 76 (iv (mc L)) _ (fun _ hc => after_row r0 hc) Tryd.underlying76 rfl hi4 ?_; simp only [Act.put, List.setIfInBounds_toArray, List.set_cons_zero, List.set_cons_succ]; go_big_quiet_on) | go_big_quiet_step ((first | (with_reducible refine (HZ2.out _).mono ?_; rintro e w8 ⟨rfl, b8⟩; exact ⟨rfl, After.done _ b8⟩) | (with_reducible refine (HF3.out _).mono ?_; rintro e w8 ⟨rfl, b8⟩; exact ⟨rfl, After.done _ b8⟩))))
        refine wpQuiet_nil ?_
        rintro _ ⟨ua, rfl⟩
        go_wp2
        go_ret2
        exact ⟨rfl, b0.trans (ua.h.mono b0.size)⟩
      | some q =>
        obtain ⟨t, y⟩ := q
        rw [hX] at HFF HZ
        obtain ⟨a1, a2, a3, a4, a5, a6, -⟩ := HSS.out t y hX
        have HZ3 : Hid (gr T L.length g t (x ++ y) = Z) := HZ
        have HF3 : Hid (∀ u : After W, Calls Tryd.prog 51 #[.agg (iv (mc L)).toArray, .int .u16 s, .int .i64 ((z : Int) - 1)] u.v fun e w' => e = .returned (.tuple #[.string (wS y), .int .u16 t, .bool true]) ∧ Below u.v.heap.size u.v w') := Lib.hid (fun u => HFF.out u.v (b0.trans (u.h.mono b0.size)))
        have hxy : (wS x).size + (wS y).size ≤ 100000 := by rw [wS_len, wS_len]; omega
        have HXY : Hid (wS x ++ wS y = wS (x ++ y)) := Lib.hid (wS_app x y)
        have HLL : Hid ((x ++ y).length + g * 512 ≤ 4096) := Lib.hid (by rw [List.length_append]; omega)
        clear HFF HZ hX HSS HZ1 a1 a2
        refine wp_region_class_all (C := fun w' => ∃ u : After _, w' = u.v) (by kernel_rfl) (by kernel_rfl) (isAfter_start _) ?_
        try simp only [Act.put]
        repeat (first | ((with_reducible refine (?_ : wpQuiet _ _ _ _ (Oper.mk (some 15) _ _ _ _ _ :: _) _); go_big_quiet_want); refine quiet_load_row 76 (.tmp 1) rfl w.heap.size rfl 76 (iv (mc L)) _ (fun _ hc => after_row r0 hc) Tryd.underlying76 rfl hi4 ?_; simp only [Act.put, List.setIfInBounds_toArray, List.set_cons_zero, List.set_cons_succ]; go_big_quiet_on) | go_big_quiet_step ((first | (with_reducible refine (HZ2.out _).mono ?_; rintro e w8 ⟨rfl, b8⟩; exact ⟨rfl, After.done _ b8⟩) | (with_reducible refine (HF3.out _).mono ?_; rintro e w8 ⟨rfl, b8⟩; exact ⟨rfl, After.done _ b8⟩))))
        refine wpQuiet_nil ?_
        rintro _ ⟨ua, rfl⟩
        go_wp2
        go_roundw
        case rel => exact ⟨g, t, x ++ y, by rw [HXY.out], rfl, by omega, by omega, a5, a6, HLL.out, r0.below ua.h, b0.trans (ua.h.mono b0.size), HZ3⟩
        case measure => simp [intOf]; have := HZE.out; omega
    · have g1 : decide ((1 : Int) < (szS s : Int)) = false := decide_eq_false (by omega)
      have g1' : decide (1 < szS s) = false := decide_eq_false h1
      rw [gr_end (by omega)] at HZ
      have hzz : some x = Z := HZ.out
      subst hzz
      clear HZ HSF HF
      go_wp2_with (go_at_call 71; refine (HZ1.out _).mono ?_; rintro e _ ⟨rfl, nq, rfl⟩)
      go_ret2
      exact ⟨rfl, b0.trans (below_drewN nq)⟩
theorem Greedy_no (A : Option Addr) (c : Nat) (L : List (List Int)) (w : World) (hv : okM L = false) (ha : RowsAt w A L) :
    Calls Tryd.prog 20 #[.slice A L.length c] w fun e w' => e = .returned (.tuple #[.string ⟨#[]⟩, .int .i64 2]) ∧ Below w.heap.size w w' := by
  have HR := Lib.hid (rm_no A c L w hv ha)
  clear hv ha
  go_enter Tryd.func20, Tryd.ntmps20
  go_wp2_with (first
    | (go_at_call 50; refine HR.out.mono ?_; rintro e w2 ⟨rfl, b2⟩; have q0 : Row (w2.alloc (.cells #[.int .i64 0, .int .i64 0, .int .i64 0, .int .i64 0, .int .i64 0, .int .i64 0, .int .i64 0, .int .i64 0, .int .i64 0, .int .i64 0, .int .i64 0, .int .i64 0, .int .i64 0, .int .i64 0, .int .i64 0, .int .i64 0, .int .i64 0, .int .i64 0, .int .i64 0, .int .i64 0, .int .i64 0, .int .i64 0, .int .i64 0, .int .i64 0, .int .i64 0, .int .i64 0, .int .i64 0, .int .i64 0, .int .i64 0, .int .i64 0, .int .i64 0, .int .i64 0, .int .i64 0, .int .i64 0, .int .i64 0, .int .i64 0, .int .i64 0, .int .i64 0] 76)) w2.heap.size 76 Z38 := row_new rfl; have b0 := b2.alloc b2.size (.cells #[.int .i64 0, .int .i64 0, .int .i64 0, .int .i64 0, .int .i64 0, .int .i64 0, .int .i64 0, .int .i64 0, .int .i64 0, .int .i64 0, .int .i64 0, .int .i64 0, .int .i64 0, .int .i64 0, .int .i64 0, .int .i64 0, .int .i64 0, .int .i64 0, .int .i64 0, .int .i64 0, .int .i64 0, .int .i64 0, .int .i64 0, .int .i64 0, .int .i64 0, .int .i64 0, .int .i64 0, .int .i64 0, .int .i64 0, .int .i64 0, .int .i64 0, .int .i64 0, .int .i64 0, .int .i64 0, .int .i64 0, .int .i64 0, .int .i64 0, .int .i64 0] 76); have hbz := b2.size)
    | (with_reducible refine (?_ : wpList _ _ _ (Oper.mk _ (Op.store 76 (.tmp 4) _) _ _ _ _ :: _) _ _); refine wpList_store_row rfl 76 (.tmp 4) (.tmp 10) rfl w2.heap.size Z38.toArray rfl rfl 76 Z38.toArray (row_heap q0) info76_z rfl z38_all ?_; replace b0 := below_row (g := w2.heap.size) b0 hbz Z38.toArray; generalize World.setRow (w2.alloc _) _ _ = W at *))
  go_ret2
  exact ⟨rfl, b0⟩
def grE : Option (List Nat) → Value
  | none => .tuple #[.string ⟨#[]⟩, .int .i64 6]
  | some x => .tuple #[.string (wS x), .int .i64 0]
theorem Greedy_yes (A : Option Addr) (c : Nat) (L : List (List Int)) (w : World) (h : IsMI L) (ha : RowsAt w A L) (ht : TabW w) :
    Calls Tryd.prog 20 #[.slice A L.length c] w fun e w' => e = .returned (grE (grX L)) ∧ Below w.heap.size w w' := by
  have HR := Lib.hid (rm_yes A c L w h ha)
  have hi := info76_iv (x := mc L) (mcP_len L 36)
  have hsz := hsz76 L
  have HK := Lib.hid (fun V (hV : Below w.heap.size w V) => greedy_any L V h (ht.below hV ht.lt))
  clear ha ht h
  cases hX : grX L with
  | none =>
    rw [hX] at HK
    have HK2 : Hid (∀ V, Below w.heap.size w V → Calls Tryd.prog 56 #[.agg (iv (mc L)).toArray] V fun e w' => e = .returned (.tuple #[.string ⟨#[]⟩, .bool false]) ∧ Below V.heap.size V w') := HK
    clear HK hX
    go_enter Tryd.func20, Tryd.ntmps20
    go_wp2_with (first
      | (go_at_call 50; refine HR.out.mono ?_; rintro e w2 ⟨rfl, b2⟩; have q0 : Row (w2.alloc (.cells #[.int .i64 0, .int .i64 0, .int .i64 0, .int .i64 0, .int .i64 0, .int .i64 0, .int .i64 0, .int .i64 0, .int .i64 0, .int .i64 0, .int .i64 0, .int .i64 0, .int .i64 0, .int .i64 0, .int .i64 0, .int .i64 0, .int .i64 0, .int .i64 0, .int .i64 0, .int .i64 0, .int .i64 0, .int .i64 0, .int .i64 0, .int .i64 0, .int .i64 0, .int .i64 0, .int .i64 0, .int .i64 0, .int .i64 0, .int .i64 0, .int .i64 0, .int .i64 0, .int .i64 0, .int .i64 0, .int .i64 0, .int .i64 0, .int .i64 0, .int .i64 0] 76)) w2.heap.size 76 Z38 := row_new rfl; have b0 := b2.alloc b2.size (.cells #[.int .i64 0, .int .i64 0, .int .i64 0, .int .i64 0, .int .i64 0, .int .i64 0, .int .i64 0, .int .i64 0, .int .i64 0, .int .i64 0, .int .i64 0, .int .i64 0, .int .i64 0, .int .i64 0, .int .i64 0, .int .i64 0, .int .i64 0, .int .i64 0, .int .i64 0, .int .i64 0, .int .i64 0, .int .i64 0, .int .i64 0, .int .i64 0, .int .i64 0, .int .i64 0, .int .i64 0, .int .i64 0, .int .i64 0, .int .i64 0, .int .i64 0, .int .i64 0, .int .i64 0, .int .i64 0, .int .i64 0, .int .i64 0, .int .i64 0, .int .i64 0] 76); have hbz := b2.size)
      | (with_reducible refine (?_ : wpList _ _ _ (Oper.mk _ (Op.store 76 (.tmp 4) _) _ _ _ _ :: _) _ _); refine wpList_store_row rfl 76 (.tmp 4) (.tmp 10) rfl w2.heap.size (iv (mc L)).toArray rfl rfl 76 Z38.toArray (row_heap q0) hi hsz (iv_all _) ?_; replace q0 := q0.row (iv (mc L)); replace b0 := below_row (g := w2.heap.size) b0 hbz (iv (mc L)).toArray; generalize World.setRow (w2.alloc _) _ _ = W at *)
      | ((with_reducible refine (?_ : wpList _ _ _ (Oper.mk (some 15) _ _ _ _ _ :: _) _ _)); refine wpList_load_row rfl 76 (.tmp 4) rfl w2.heap.size rfl 76 (iv (mc L)).toArray (0, 0) _ (row_heap q0) Tryd.underlying76 rfl hi ?_)
      | (go_at_call 56; refine (HK2.out _ b0).mono ?_; rintro e w3 ⟨rfl, b3⟩; replace b0 := b0.trans (b3.mono b0.size)))
    go_ret2
    exact ⟨rfl, b0⟩
  | some x =>
    rw [hX] at HK
    have HK2 : Hid (∀ V, Below w.heap.size w V → Calls Tryd.prog 56 #[.agg (iv (mc L)).toArray] V fun e w' => e = .returned (.tuple #[.string (wS x), .bool true]) ∧ Below V.heap.size V w') := HK
    clear HK hX
    go_enter Tryd.func20, Tryd.ntmps20
    go_wp2_with (first
      | (go_at_call 50; refine HR.out.mono ?_; rintro e w2 ⟨rfl, b2⟩; have q0 : Row (w2.alloc (.cells #[.int .i64 0, .int .i64 0, .int .i64 0, .int .i64 0, .int .i64 0, .int .i64 0, .int .i64 0, .int .i64 0, .int .i64 0, .int .i64 0, .int .i64 0, .int .i64 0, .int .i64 0, .int .i64 0, .int .i64 0, .int .i64 0, .int .i64 0, .int .i64 0, .int .i64 0, .int .i64 0, .int .i64 0, .int .i64 0, .int .i64 0, .int .i64 0, .int .i64 0, .int .i64 0, .int .i64 0, .int .i64 0, .int .i64 0, .int .i64 0, .int .i64 0, .int .i64 0, .int .i64 0, .int .i64 0, .int .i64 0, .int .i64 0, .int .i64 0, .int .i64 0] 76)) w2.heap.size 76 Z38 := row_new rfl; have b0 := b2.alloc b2.size (.cells #[.int .i64 0, .int .i64 0, .int .i64 0, .int .i64 0, .int .i64 0, .int .i64 0, .int .i64 0, .int .i64 0, .int .i64 0, .int .i64 0, .int .i64 0, .int .i64 0, .int .i64 0, .int .i64 0, .int .i64 0, .int .i64 0, .int .i64 0, .int .i64 0, .int .i64 0, .int .i64 0, .int .i64 0, .int .i64 0, .int .i64 0, .int .i64 0, .int .i64 0, .int .i64 0, .int .i64 0, .int .i64 0, .int .i64 0, .int .i64 0, .int .i64 0, .int .i64 0, .int .i64 0, .int .i64 0, .int .i64 0, .int .i64 0, .int .i64 0, .int .i64 0] 76); have hbz := b2.size)
      | (with_reducible refine (?_ : wpList _ _ _ (Oper.mk _ (Op.store 76 (.tmp 4) _) _ _ _ _ :: _) _ _); refine wpList_store_row rfl 76 (.tmp 4) (.tmp 10) rfl w2.heap.size (iv (mc L)).toArray rfl rfl 76 Z38.toArray (row_heap q0) hi hsz (iv_all _) ?_; replace q0 := q0.row (iv (mc L)); replace b0 := below_row (g := w2.heap.size) b0 hbz (iv (mc L)).toArray; generalize World.setRow (w2.alloc _) _ _ = W at *)
      | ((with_reducible refine (?_ : wpList _ _ _ (Oper.mk (some 15) _ _ _ _ _ :: _) _ _)); refine wpList_load_row rfl 76 (.tmp 4) rfl w2.heap.size rfl 76 (iv (mc L)).toArray (0, 0) _ (row_heap q0) Tryd.underlying76 rfl hi ?_)
      | (go_at_call 56; refine (HK2.out _ b0).mono ?_; rintro e w3 ⟨rfl, b3⟩; replace b0 := b0.trans (b3.mono b0.size)))
    go_ret2
    exact ⟨rfl, b0⟩
end Go.Proofs.YtignbpipdfjkeaaDoor
/- The reference's Apart and Greedy. -/
namespace Go.Proofs.YtignbpipdfjkeaaDoor
open Go.RowKit Go.PlainAid
set_option maxHeartbeats 2000000
set_option maxRecDepth 100000
theorem seek_sh {L : List (List Int)} (h : IsMI L) {p q : Nat} (hp : p < nS L) (hq : q < nS L) : (seek (tabN L) L.length (sg p q) (few 1)).isSome = ((szS (shP L p q).1 : Int) == 1) := by
  obtain ⟨s1, s2, -⟩ := sg_set h.n9 hp hq
  rw [seek_one h.isM s1 s2]
  show _ = ((szS (shE (tabN L) L.length (sg p q)).1 : Int) == 1)
  by_cases e : szS (shE (tabN L) L.length (sg p q)).1 = 1
  · rw [if_pos e, e]; rfl
  · rw [if_neg e]
    symm
    rw [show (none : Option (Nat × List Nat)).isSome = false from rfl, beq_eq_false_iff_ne]
    omega
theorem refApart_any (A : Option Addr) (c : Nat) (L : List (List Int)) (w : World) (h : IsMI L) (ha : RowsAt w A L) : Calls Tryd.prog 26 #[.slice A L.length c] w (NewL w (apX L)) := by
  have b0 := Below.refl w.heap.size w
  have hn9 := h.n9
  have HM := Lib.hid (fun p q V (hp : p < nS L) (hq : q < nS L) (hV : Below w.heap.size w V) => by
    have := refMerge_any A c L p q V h hp hq (ha.below hV)
    rwa [← seek_sh h hp hq] at this)
  have hk1 := h.k1
  obtain ⟨bA, oA, rfl, hbA, hcA⟩ := ha h.k1
  obtain ⟨B0, c0, d0, -⟩ := hcA 0 h.k1
  rw [show (getl L 0).length = nS L from rfl, Nat.add_zero] at d0
  have D0 : Hid (∀ V, Below w.heap.size w V → V.cell? ⟨bA, oA, none⟩ = some (.slice B0 (nS L) c0)) := Lib.hid (fun V hV => (hV.cell (p := ⟨bA, _, none⟩) hbA).trans d0)
  obtain ⟨Z, hZ⟩ : ∃ Z, apX L = Z := ⟨_, rfl⟩
  have HZ0 : Hid (outR (tabN L) L.length (nS L) (nS L - 0) 0 = Z) := Lib.hid hZ
  rw [hZ]
  clear hZ h ha hcA d0
  generalize shP L = S at *
  generalize nS L = n at *
  generalize tabN L = T at *
  generalize L.length = k at *
  go_enter Tryd.func26, Tryd.ntmps26
  go_wp2
  go_loopw [3] (fun i wr => ∃ p : Nat, i = .int .i64 p ∧ p ≤ n ∧ Below w.heap.size w wr ∧ Hid (outR T k n (n - p) p = Z)) (fun i _ => n - (intOf i).toNat)
  case atStart => exact ⟨0, rfl, by omega, b0, HZ0⟩
  case round =>
    clear b0 HZ0
    obtain ⟨p, rfl, hpn, b0, HZ⟩ := hrel
    have d0 := D0.out wr b0
    by_cases hlt : p < n
    · have g1 : decide (p < n) = true := decide_eq_true hlt
      have HZ2 : Hid ((match inR T k p (n - (p + 1)) (p + 1) with
        | some q => [(p : Int), (q : Int)]
        | none => outR T k n (n - (p + 1)) (p + 1)) = Z) := Lib.hid (by have := HZ.out; rw [show n - p = (n - (p + 1)) + 1 by omega] at this; exact this)
      obtain ⟨Y, hY⟩ : ∃ Y, inR T k p (n - (p + 1)) (p + 1) = Y := ⟨_, rfl⟩
      rw [hY] at HZ2
      have HY0 := Lib.hid hY
      clear HZ hY
      go_wp2
      clear d0
      go_loopw [4] (fun i wr => ∃ q : Nat, i = .int .i64 q ∧ p < q ∧ q ≤ n ∧ Below w.heap.size w wr ∧ Hid (inR T k p (n - q) q = Y)) (fun i _ => n - (intOf i).toNat)
      case atStart => exact ⟨p + 1, by go_num, by omega, by omega, b0, HY0⟩
      case round =>
        clear b0 HY0
        obtain ⟨q, rfl, hpq, hqn, b0, HY⟩ := hrel
        have d0 := D0.out wr b0
        by_cases hlq : q < n
        · have g2 : decide (q < n) = true := decide_eq_true hlq
          have HY2 : Hid ((if (seek T k (sg p q) (few 1)).isSome then inR T k p (n - (q + 1)) (q + 1) else some q) = Y) := Lib.hid (by have := HY.out; rw [show n - q = (n - (q + 1)) + 1 by omega] at this; exact this)
          have HFM := Lib.hid (HM.out p q wr hlt hlq b0)
          generalize (S p q).2 = sx at *
          clear HY
          cases hX : (seek T k (sg p q) (few 1)).isSome with
          | false =>
            rw [hX] at HFM HY2
            have hy : some q = Y := HY2.out
            subst hy
            have hz : [(p : Int), (q : Int)] = Z := HZ2.out
            subst hz
            clear HZ2 HY2 hX
            go_wp2_with (go_at_call 30; refine HFM.out.mono ?_; rintro e w4 ⟨rfl, b4⟩; replace b0 := b0.trans (b4.mono b0.size); have o9 := own_pair w4 w.heap.size (p : Int) (q : Int) b0.size)
            go_ret
            exact ⟨_, rfl, o9, b0.alloc b0.size _⟩
          | true =>
            rw [hX] at HFM HY2
            have HY3 : Hid (inR T k p (n - (q + 1)) (q + 1) = Y) := HY2
            clear HY2 hX
            go_wp2_with (go_at_call 30; refine HFM.out.mono ?_; rintro e w4 ⟨rfl, b4⟩; replace b0 := b0.trans (b4.mono b0.size))
            go_roundw
            case rel => exact ⟨q + 1, by go_num, by omega, by omega, b0, HY3⟩
            case measure => simp [intOf]; omega
        · obtain rfl : q = n := by omega
          have hy : none = Y := by have := HY.out; rw [Nat.sub_self] at this; exact this
          subst hy
          have HZ3 : Hid (outR T k q (q - (p + 1)) (p + 1) = Z) := HZ2
          clear HZ2 HY
          go_wp2
          go_roundw
          case rel => exact ⟨p + 1, by go_num, by omega, b0, HZ3⟩
          case measure => simp [intOf]; omega
    · obtain rfl : p = n := by omega
      have hz : [] = Z := by have := HZ.out; rw [Nat.sub_self] at this; exact this
      subst hz
      clear HZ
      go_wp2
      go_ret
      exact ⟨_, rfl, ⟨rfl, .inl ⟨rfl, rfl⟩⟩, b0⟩
/-- The word that merges two states first. -/
def mgW (L : List (List Int)) (p q : Nat) : List Nat := (shP L p q).2
theorem mgW_comm (L : List (List Int)) (p q : Nat) : mgW L p q = mgW L q p := by unfold mgW shP; rw [sg_comm]
theorem mgW_facts {L : List (List Int)} (h : IsMI L) {p q : Nat} (hp : p < nS L) (hq : q < nS L) (hpq : p ≠ q) (h1 : szS (shP L p q).1 = 1) :
    okW L.length (mgW L p q) ∧ runS (tabN L) p (mgW L p q) = runS (tabN L) q (mgW L p q) ∧ mgW L p q ≠ [] ∧ (mgW L p q).length ≤ 512 ∧ ∀ v, okW L.length v → runS (tabN L) p v = runS (tabN L) q v → vw (mgW L p q) ≤ vw v := by
  obtain ⟨s1, s2, -⟩ := sg_set h.n9 hp hq
  have e := seek_one (T := tabN L) (k := L.length) h.isM s1 s2
  rw [if_pos (show szS (shE (tabN L) L.length (sg p q)).1 = 1 from h1)] at e
  obtain ⟨a1, a2, a3, a4, -, -, a7⟩ := seek_facts h.isM s1 s2 (show seek (tabN L) L.length (sg p q) (few 1) = some ((shP L p q).1, mgW L p q) from e)
  have hr := (merge_iff h.isM hp hq a1).1 (by rw [a2]; exact a3)
  refine ⟨a1, hr, fun en => hpq ?_, a4, fun v hv ev => a7 v hv ((merge_iff h.isM hp hq hv).2 ev)⟩
  rw [en] at hr
  exact hr
/-- The state at a place of a set's list. -/
def biN (s j : Nat) : Nat := (bitsS s).getD j 0
theorem biN_geti {s j : Nat} (h : j < szS s) : geti (lsI s) j = (biN s j : Int) := by
  have h2 : j < (bitsS s).length := h
  rw [geti_eq (by rw [lsI_len]; exact h)]
  unfold lsI biN
  rw [List.getElem_map, List.getD_eq_getElem?_getD, List.getElem?_eq_getElem h2]; rfl
theorem biN_mem {s j : Nat} (h : j < szS s) : biN s j ∈ bitsS s := by
  have h2 : j < (bitsS s).length := h
  unfold biN; rw [List.getD_eq_getElem?_getD, List.getElem?_eq_getElem h2]; exact List.getElem_mem h2
theorem biN_ne {s i j : Nat} (hi : i < szS s) (hj : j < szS s) (h : i ≠ j) : biN s i ≠ biN s j := by
  have h1 : i < (bitsS s).length := hi
  have h2 : j < (bitsS s).length := hj
  have hp := List.pairwise_iff_getElem.1 (bits_nd s)
  unfold biN
  rw [List.getD_eq_getElem?_getD, List.getElem?_eq_getElem h1, List.getD_eq_getElem?_getD, List.getElem?_eq_getElem h2]
  rcases Nat.lt_or_ge i j with h3 | h3
  · exact hp i j h1 h2 h3
  · exact fun e => hp j i h2 h1 (by omega) e.symm
theorem biN_of {s p : Nat} (h : p ∈ bitsS s) : ∃ j, j < szS s ∧ biN s j = p := by
  obtain ⟨j, hj, e⟩ := List.getElem_of_mem h
  exact ⟨j, hj, by unfold biN; rw [List.getD_eq_getElem?_getD, List.getElem?_eq_getElem hj]; exact e⟩
/-- What is known of the best word so far: the pairs below the place i, and those of i below the place k, are done. -/
structure BI (f : Nat → Nat → List Nat) (z i k : Nat) (b : List Nat) : Prop where
  least : ∀ j m, m < j → (j < i ∨ (j = i ∧ m < k)) → b ≠ [] ∧ vw b ≤ vw (f j m)
  one : b ≠ [] → ∃ j m, m < j ∧ j < z ∧ b = f j m
theorem BI.start (f : Nat → Nat → List Nat) (z : Nat) : BI f z 0 0 [] := ⟨fun j m h1 h2 => by omega, fun h => absurd rfl h⟩
theorem BI.next {f : Nat → Nat → List Nat} {z i : Nat} {b : List Nat} (h : BI f z i i b) : BI f z (i + 1) 0 b := ⟨fun j m h1 h2 => h.least j m h1 (by omega), h.one⟩
theorem BI.take {f : Nat → Nat → List Nat} {z i k : Nat} {b : List Nat} (h : BI f z i k b) (hk : k < i) (hi : i < z) (hf : f i k ≠ []) (hb : b = [] ∨ vw (f i k) < vw b) : BI f z i (k + 1) (f i k) :=
  ⟨fun j m h1 h2 => by
    refine ⟨hf, ?_⟩
    by_cases e : j = i ∧ m = k
    · rw [e.1, e.2]; exact Nat.le_refl _
    · obtain ⟨h3, h4⟩ := h.least j m h1 (by omega)
      rcases hb with h5 | h5
      · exact absurd h5 h3
      · omega, fun _ => ⟨i, k, hk, hi, rfl⟩⟩
theorem BI.keep {f : Nat → Nat → List Nat} {z i k : Nat} {b : List Nat} (h : BI f z i k b) (hb : b ≠ []) (hv : vw b ≤ vw (f i k)) : BI f z i (k + 1) b :=
  ⟨fun j m h1 h2 => by
    by_cases e : j = i ∧ m = k
    · rw [e.1, e.2]; exact ⟨hb, hv⟩
    · exact h.least j m h1 (by omega), h.one⟩
def pwN (L : List (List Int)) (s j m : Nat) : List Nat := mgW L (biN s m) (biN s j)
/-- The best of the pairs is the first word that makes the set smaller. -/
theorem best_seek {L : List (List Int)} (h : IsMI L) (hall : ∀ p q, p < nS L → q < nS L → szS (shP L p q).1 = 1) {s : Nat} {b : List Nat} (hs : IsS (nS L) s) (h1 : 1 < szS s) (hb : BI (pwN L s) (szS s) (szS s) 0 b) :
    seek (tabN L) L.length s (few (szS s - 1)) = some (img (tabN L) s b, b) ∧ okW L.length b ∧ b.length ≤ 512 := by
  have hM := h.isM
  have hF : ∀ j m, j < szS s → m < szS s → m ≠ j → _ := fun j m hj hm hmj => mgW_facts h (bits_bound hs (biN_mem hm)) (bits_bound hs (biN_mem hj)) (biN_ne hm hj hmj) (hall _ _ (bits_bound hs (biN_mem hm)) (bits_bound hs (biN_mem hj)))
  obtain ⟨h2, -⟩ := hb.least 1 0 (by omega) (.inl h1)
  obtain ⟨j, m, hmj, hj, e⟩ := hb.one h2
  obtain ⟨f1, f2, f3, f4, f5⟩ := hF j m hj (by omega) (by omega)
  have ob : okW L.length b := by rw [e]; exact f1
  refine ⟨seek_eq hM hs ob ?_ (fun v hv hg => ?_), ob, by rw [e]; exact f4⟩
  · unfold few
    refine decide_eq_true ?_
    have := img_less hM hs ob (biN_mem (s := s) (j := m) (by omega)) (biN_mem hj) (biN_ne (by omega) hj (by omega)) (by rw [e]; exact f2)
    omega
  · unfold few at hg
    have hg' := of_decide_eq_true hg
    obtain ⟨p, q, hp, hq, hpq, er⟩ := less_pair hM hs hv (by omega)
    obtain ⟨a, ha, ea⟩ := biN_of hp
    obtain ⟨c, hc, ec⟩ := biN_of hq
    have hac : a ≠ c := fun e => hpq (by rw [← ea, ← ec, e])
    rcases Nat.lt_or_ge a c with h3 | h3
    · obtain ⟨-, l1⟩ := hb.least c a h3 (.inl hc)
      obtain ⟨-, -, -, -, g5⟩ := hF c a hc ha (by omega)
      exact Nat.le_trans l1 (g5 v hv (by rw [ea, ec]; exact er))
    · obtain ⟨-, l1⟩ := hb.least a c (by omega) (.inl ha)
      obtain ⟨-, -, -, -, g5⟩ := hF a c ha hc (by omega)
      exact Nat.le_trans l1 (g5 v hv (by rw [ea, ec]; exact er.symm))
end Go.Proofs.YtignbpipdfjkeaaDoor
