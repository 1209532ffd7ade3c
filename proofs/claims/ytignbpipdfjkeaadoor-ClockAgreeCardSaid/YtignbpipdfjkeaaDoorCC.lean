/- Sets made from lists, lengths of first words, states; ClockInside walked. -/
import Derived.Test.YtignbpipdfjkeaaDoorMH
import Derived.Test.YtignbpipdfjkeaaDoorBA
import Derived.Test.YtignbpipdfjkeaaDoorAU
import Derived.Test.YtignbpipdfjkeaaDoorBV
import Derived.Test.YtignbpipdfjkeaaDoorBQ
import Derived.Test.YtignbpipdfjkeaaDoorBZ
/- Sets made from lists; how long the first words are; words put together; states. -/
/- Sets made from lists; how long the first words are; words put together. -/
namespace Go.Proofs.YtignbpipdfjkeaaDoor
open Go.PlainAid
set_option maxHeartbeats 1000000
set_option maxRecDepth 100000
/-- The numbers below k that are chosen, as a set and as a list. -/
def stS (f : Nat → Bool) (k : Nat) : Nat := (List.range k).foldl (fun s q => if f q then s ||| 2 ^ q else s) 0
def stL (f : Nat → Bool) (k : Nat) : List Int := ((List.range k).filter f).map fun q : Nat => (q : Int)
theorem stS_succ (f : Nat → Bool) (k : Nat) : stS f (k + 1) = if f k then stS f k ||| 2 ^ k else stS f k := by unfold stS; rw [List.range_succ, List.foldl_append]; rfl
theorem stL_succ (f : Nat → Bool) (k : Nat) : stL f (k + 1) = if f k = true then stL f k ++ [(k : Int)] else stL f k := by
  unfold stL; rw [List.range_succ, List.filter_append, List.map_append]
  cases h : f k <;> simp [h]
theorem stS_bit (f : Nat → Bool) (j : Nat) : ∀ k, (stS f k).testBit j = (decide (j < k) && f j)
  | 0 => by simp [stS]
  | k + 1 => by
    rw [stS_succ]
    have ih := stS_bit f j k
    by_cases hj : j = k
    · subst hj
      cases h : f j
      · rw [if_neg (by simp), ih, h]; simp
      · rw [if_pos rfl, Nat.testBit_or, Nat.testBit_two_pow]; simp
    · have e : decide (j < k + 1) = decide (j < k) := by rw [decide_eq_decide]; omega
      rw [e, ← ih]
      split
      · rw [Nat.testBit_or, Nat.testBit_two_pow, decide_eq_false (fun h => hj h.symm), Bool.or_false]
      · rfl
theorem stS_lt (f : Nat → Bool) (k : Nat) : stS f k < 2 ^ k := by
  refine Nat.lt_pow_two_of_testBit _ (fun i hi => ?_)
  rw [stS_bit, decide_eq_false (by omega)]; rfl
theorem stL_eq (f : Nat → Bool) {k : Nat} (hk : k ≤ 9) : stL f k = lsI (stS f k) := by
  unfold stL lsI bitsS
  congr 1
  obtain ⟨d, hd⟩ : ∃ d, 9 = k + d := ⟨9 - k, by omega⟩
  rw [hd, List.range_add, List.filter_append]
  have e1 : ((List.range d).map (k + ·)).filter (fun q => (stS f k).testBit q) = [] := by
    rw [List.filter_eq_nil_iff]
    intro q hq
    obtain ⟨j, _, rfl⟩ := List.mem_map.1 hq
    rw [stS_bit, decide_eq_false (by omega)]
    simp
  rw [e1, List.append_nil]
  refine List.filter_congr (fun q hq => ?_)
  rw [stS_bit, decide_eq_true (List.mem_range.1 hq), Bool.true_and]
theorem stL_len (f : Nat → Bool) (k : Nat) : (stL f k).length ≤ k := by
  unfold stL; rw [List.length_map]; have := List.length_filter_le f (List.range k); simpa using this
theorem stS_ne {f : Nat → Bool} {k j : Nat} (hj : j < k) (h : f j = true) : stS f k ≠ 0 := fun e => by
  have := stS_bit f j k
  rw [e, decide_eq_true hj, h] at this
  simp at this
/-- A set's list is a set's list. -/
theorem setL_lsD : ((List.range 512).all fun S => setL (lsI S) == S && okS 9 (lsI S)) = true := by decide +kernel
theorem setL_ls {S : Nat} (h : S < 512) : setL (lsI S) = S := by
  have := List.all_eq_true.1 setL_lsD S (List.mem_range.2 h)
  rw [Bool.and_eq_true, beq_iff_eq] at this
  exact this.1
theorem okS_ls {n S : Nat} (hn : n ≤ 9) (h : IsS n S) : okS n (lsI S) = true := by
  have h1 := List.all_eq_true.1 setL_lsD S (List.mem_range.2 (set512 hn h))
  rw [Bool.and_eq_true] at h1
  refine okS_yes (fun i hi => ?_)
  obtain ⟨g1, g2, -⟩ := goodA_iff.1 (okS_at h1.2 hi)
  refine goodA_iff.2 ⟨g1, g2, ?_⟩
  have hm : geti (lsI S) i ∈ lsI S := by rw [geti_eq hi]; exact List.getElem_mem hi
  unfold lsI at hm
  obtain ⟨q, hq, e⟩ := List.mem_map.1 hm
  have := bits_bound h hq
  unfold lsI
  omega
/-! The place of a word in the order tells its length. -/
theorem vw_len : ∀ (n : Nat) (x : List Nat), x.length = n → okW 4 x → 4 ^ n ≤ 3 * vw x + 1 ∧ 3 * vw x + 4 ≤ 4 ^ (n + 1)
  | 0, x, h, _ => by
    obtain rfl := List.length_eq_zero_iff.1 h
    simp [vw]
  | n + 1, x, h, hx => by
    rcases List.eq_nil_or_concat x with rfl | ⟨y, b, rfl⟩
    · cases h
    · rw [List.concat_eq_append] at *
      obtain ⟨h1, h2⟩ := okW_snoc.1 hx
      obtain ⟨i1, i2⟩ := vw_len n y (by simpa using h) h1
      have e1 : 4 ^ (n + 1) = 4 ^ n * 4 := Nat.pow_succ 4 n
      have e2 : 4 ^ (n + 1 + 1) = 4 ^ (n + 1) * 4 := Nat.pow_succ 4 (n + 1)
      rw [vw_snoc]
      omega
theorem vw_le_len {x y : List Nat} (hx : okW 4 x) (hy : okW 4 y) (h : vw x ≤ vw y) : x.length ≤ y.length := by
  obtain ⟨h1, -⟩ := vw_len _ x rfl hx
  obtain ⟨-, h2⟩ := vw_len _ y rfl hy
  rcases Nat.lt_or_ge y.length x.length with h3 | h3
  · have := Nat.pow_le_pow_right (n := 4) (by decide) (show y.length + 1 ≤ x.length by omega)
    omega
  · exact h3
theorem okW4 {k : Nat} (hk : k ≤ 4) {x : List Nat} (h : okW k x) : okW 4 x := fun b hb => Nat.lt_of_lt_of_le (h b hb) hk
variable {T : Tab} {k n : Nat}
theorem okW_app {x y : List Nat} : okW k (x ++ y) ↔ okW k x ∧ okW k y := by
  unfold okW
  constructor
  · intro h; exact ⟨fun b hb => h b (by simp [hb]), fun b hb => h b (by simp [hb])⟩
  · rintro ⟨h1, h2⟩ b hb
    rcases List.mem_append.1 hb with h | h
    · exact h1 b h
    · exact h2 b h
/-- A pair that merges does so by a word of at most 36 buttons. -/
def twoS : List Nat := (List.range 512).filter fun s => szS s == 2
theorem twoS_len : twoS.length = 36 := by decide +kernel
theorem merge_short (hM : IsM T k n) {p q : Nat} (hp : p < n) (hq : q < n) {v : List Nat} (hv : okW k v) (hr : runS T p v = runS T q v) :
    ∃ x, okW k x ∧ x.length ≤ 36 ∧ runS T p x = runS T q x := by
  obtain ⟨s1, s2, -⟩ := sg_set hM.n9 hp hq
  have hsz : szS (sg p q) ≤ 2 := by
    have := nd_sub (l := bitsS (sg p q)) (m := [p, q]) (bits_nd _) (fun j hj => by
      have := (sg_bits (by have := hM.n9; omega) (by have := hM.n9; omega)).1 hj
      simp only [List.mem_cons, List.not_mem_nil, or_false]
      exact this)
    exact this
  rcases e : seek T k (sg p q) (few 1) with _ | ⟨t, x⟩
  · have := (seek_none hM s1).1 e v hv
    unfold few at this
    exact absurd ((merge_iff hM hp hq hv).2 hr) (of_decide_eq_false this)
  · obtain ⟨h1, h2, h3, h4⟩ := seek_some hM s1 e
    unfold few at h3 h4
    have h3' := of_decide_eq_true h3
    refine ⟨x, h1, ?_, (merge_iff hM hp hq h1).1 (by rw [h2]; exact h3')⟩
    have hx4 := okW4 hM.k4 h1
    -- the images on the way are different pairs
    have hpre : ∀ i, okW k (x.take i) := fun i b hb => h1 b (List.mem_of_mem_take hb)
    have hcut : ∀ y, okW k y → szS (img T (sg p q) y) ≤ 1 → x.length ≤ y.length := fun y hy h => vw_le_len hx4 (okW4 hM.k4 hy) (h4 y hy (decide_eq_true h))
    have htwo : ∀ i, i < x.length → szS (img T (sg p q) (x.take i)) = 2 := fun i hi => by
      have a1 := img_sz hM s1 (hpre i)
      rcases Nat.lt_or_ge 1 (szS (img T (sg p q) (x.take i))) with h | h
      · omega
      · have := hcut _ (hpre i) h
        rw [List.length_take] at this
        omega
    have hne : ∀ i j, i < j → j < x.length → img T (sg p q) (x.take i) ≠ img T (sg p q) (x.take j) := fun i j hij hj e => by
      have h5 : img T (sg p q) (x.take i ++ x.drop j) = img T (sg p q) x := by
        rw [img_app, e, ← img_app, List.take_append_drop]
      have := hcut (x.take i ++ x.drop j) (okW_app.2 ⟨hpre i, fun b hb => h1 b (List.mem_of_mem_drop hb)⟩) (by rw [h5, h2]; exact h3')
      rw [List.length_append, List.length_take, List.length_drop] at this
      omega
    have := nd_sub (l := (List.range x.length).map fun i => img T (sg p q) (x.take i)) (m := twoS) (by
      rw [List.pairwise_map]
      exact List.Pairwise.imp_of_mem (fun {a b} ha hb hab => hne a b hab (List.mem_range.1 hb)) List.pairwise_lt_range) (fun t ht => by
      obtain ⟨i, hi, rfl⟩ := List.mem_map.1 ht
      unfold twoS
      rw [List.mem_filter]
      exact ⟨List.mem_range.2 (set512 hM.n9 (img_set hM s1 (hpre i))), by rw [htwo i (List.mem_range.1 hi)]; rfl⟩)
    rw [twoS_len, List.length_map, List.length_range] at this
    exact this
/-- A machine that resets does so by a short word. -/
theorem reset_short (hM : IsM T k n) (h : ∀ p q, p < n → q < n → ∃ x, okW k x ∧ runS T p x = runS T q x) : ∀ (m s : Nat), szS s ≤ m + 1 → IsS n s → ∃ x, okW k x ∧ x.length ≤ 36 * m ∧ szS (img T s x) ≤ 1
  | 0, s, hm, _ => ⟨[], fun _ hb => absurd hb (List.not_mem_nil), Nat.le_refl _, by show szS s ≤ 1; omega⟩
  | m + 1, s, hm, hs => by
    by_cases h1 : szS s ≤ 1
    · exact ⟨[], fun _ hb => absurd hb (List.not_mem_nil), Nat.zero_le _, h1⟩
    · have : ¬ ∀ p q, p ∈ bitsS s → q ∈ bitsS s → p = q := fun e => h1 (one_sz e)
      simp only [Classical.not_forall] at this
      obtain ⟨p, q, hp, hq, hpq⟩ := this
      obtain ⟨v, hv, ev⟩ := h p q (bits_bound hs hp) (bits_bound hs hq)
      obtain ⟨x, hx, hxl, e⟩ := merge_short hM (bits_bound hs hp) (bits_bound hs hq) hv ev
      have hl := img_less hM hs hx hp hq hpq e
      obtain ⟨y, hy, hyl, hz⟩ := reset_short hM h m (img T s x) (by omega) (img_set hM hs hx)
      exact ⟨x ++ y, okW_app.2 ⟨hx, hy⟩, by rw [List.length_append]; omega, by rw [img_app]; exact hz⟩
theorem full_set (_hn : 1 ≤ n) : IsS n (2 ^ n - 1) := by have := Nat.two_pow_pos n; unfold IsS; omega
theorem full_ne (hn : 1 ≤ n) : 2 ^ n - 1 ≠ 0 := by have := Nat.pow_le_pow_right (n := 2) (by decide) hn; omega
theorem seek_short (hM : IsM T k n) {t : Nat} {x : List Nat} (h : seek T k (2 ^ n - 1) (few 1) = some (t, x)) : x.length ≤ 288 := by
  have hs := full_set hM.n1
  obtain ⟨h1, h2, h3, h4⟩ := seek_some hM hs h
  have hall := (reset_iff hM).1 ⟨x, h1, by rw [h2]; exact of_decide_eq_true h3⟩
  obtain ⟨y, hy, hyl, hz⟩ := reset_short hM (fun p q hp hq => by
    obtain ⟨v, hv, e⟩ := hall p q hp hq
    exact ⟨v, hv, (merge_iff hM hp hq hv).1 e⟩) 8 (2 ^ n - 1) (sz_le _) hs
  exact Nat.le_trans (vw_le_len (okW4 hM.k4 h1) (okW4 hM.k4 hy) (h4 y hy (decide_eq_true hz))) hyl
/-- A word that resets does so with any words before and after it. -/
theorem reset_inside (hM : IsM T k n) {a x b : List Nat} (ha : okW k a) (hx : okW k x) (hb : okW k b) (h : szS (img T (2 ^ n - 1) x) ≤ 1) : szS (img T (2 ^ n - 1) (a ++ (x ++ b))) = 1 := by
  have hs := full_set hM.n1
  have h0 := full_ne hM.n1
  have hsa := img_set hM hs ha
  have h1 : szS (img T (img T (2 ^ n - 1) a) x) ≤ 1 := by
    refine one_sz (fun i j hi hj => ?_)
    obtain ⟨p, hp, rfl⟩ := (img_mem hM x hsa hx).1 hi
    obtain ⟨q, hq, rfl⟩ := (img_mem hM x hsa hx).1 hj
    exact sz_one h ((img_mem hM x hs hx).2 ⟨p, all_bits hM.n9 (bits_bound hsa hp), rfl⟩) ((img_mem hM x hs hx).2 ⟨q, all_bits hM.n9 (bits_bound hsa hq), rfl⟩)
  have h2 := img_sz hM (img_set hM hsa hx) hb
  have h3 : okW k (a ++ (x ++ b)) := okW_app.2 ⟨ha, okW_app.2 ⟨hx, hb⟩⟩
  have h4 := sz_pos hM.n9 (img_set hM hs h3) (img_ne hM hs h0 h3)
  have e : img T (2 ^ n - 1) (a ++ (x ++ b)) = img T (img T (img T (2 ^ n - 1) a) x) b := by rw [img_app, img_app]
  rw [e] at h4 ⊢
  omega
theorem wS_app (x y : List Nat) : wS x ++ wS y = wS (x ++ y) := by
  unfold wS wI strOfNums
  apply ByteArray.ext
  rw [ByteArray.data_append]
  simp
end Go.Proofs.YtignbpipdfjkeaaDoor
/- states: a set made from any list. -/
namespace Go.Proofs.YtignbpipdfjkeaaDoor
open Go.RowKit Go.PlainAid
set_option maxHeartbeats 2000000
set_option maxRecDepth 100000
def inP (l : List Int) (n q i : Nat) : Bool := (decide (l.length = 0) && decide (q = 0)) || (List.range i).any fun j => modI (geti l j) n == q
theorem inP_zero (l : List Int) (n q : Nat) : inP l n q 0 = (decide (l.length = 0) && decide (q = 0)) := by simp [inP]
theorem inP_succ (l : List Int) (n q i : Nat) : inP l n q (i + 1) = (inP l n q i || (modI (geti l i) n == q)) := by
  unfold inP; rw [List.range_succ, List.any_append, Bool.or_assoc]; simp
/-- Whether a state is in the set. -/
def inB (l : List Int) (n q : Nat) : Bool := inP l n q (min l.length 20)
def stN (l : List Int) (n : Nat) : Nat := stS (inB l n) n
theorem stN_set (l : List Int) (n : Nat) : IsS n (stN l n) := stS_lt _ _
theorem stN_ne (l : List Int) {n : Nat} (hn : 1 ≤ n) : stN l n ≠ 0 := by
  rcases Nat.eq_zero_or_pos l.length with h | h
  · refine stS_ne (j := 0) hn ?_
    unfold inB inP; rw [h]; rfl
  · refine stS_ne (j := modI (geti l 0) n) (modI_lt _ hn) ?_
    unfold inB inP
    rw [Bool.or_eq_true]
    exact .inr (List.any_eq_true.2 ⟨0, List.mem_range.2 (by omega), beq_iff_eq.2 rfl⟩)
theorem states_any (A B : Option Addr) (c d : Nat) (L : List (List Int)) (l : List Int) (w : World) (h : IsMI L) (ha : RowsAt w A L) (hb : IntsAt w B l) (hl : l.length ≤ 9223372036854775807) :
    Calls Tryd.prog 47 #[.slice A L.length c, .slice B l.length d] w (NewL w (lsI (stN l (nS L)))) := by
  obtain ⟨j0, ji, jz0, jz1, jz2⟩ := info_parts info3
  have hn1 := h.n1
  have hn9 := h.n9
  have hk1 := h.k1
  have hk4 := h.k4
  obtain ⟨bA, oA, rfl, hbA, hcA⟩ := ha h.k1
  obtain ⟨B0, c0, d0, -⟩ := hcA 0 h.k1
  rw [show (getl L 0).length = nS L from rfl, Nat.add_zero] at d0
  clear hcA ha
  generalize nS L = n at *
  generalize L.length = k at *
  have b0 := Below.refl w.heap.size w
  have o0 : w.ownsRow w.heap.size 3 1 (.slice none 0 0) (stL (inB l n) 0).length (iv (stL (inB l n) 0)) := ⟨rfl, .inl ⟨rfl, rfl⟩⟩
  have HE : Hid (stL (inB l n) n = lsI (stN l n)) := Lib.hid (stL_eq _ hn9)
  have HS := Lib.hid (stL_succ (inB l n))
  have HL := Lib.hid (stL_len (inB l n))
  have HZ := Lib.hid (inP_zero l n)
  have HP := Lib.hid (inP_succ l n)
  have HIB : Hid (∀ q, inP l n q (min l.length 20) = inB l n q) := Lib.hid (fun _ => rfl)
  have HB : Hid (∀ V, Below w.heap.size w V → IntsAt V B l) := Lib.hid (fun V hV => hb.below hV)
  have HMD : Hid (∀ x V, Calls Tryd.prog 48 #[.int .i64 x, .int .i64 n] V fun e w' => e = .returned (.int .i64 (modI x n : Nat)) ∧ V = w') := Lib.hid (fun x V => mod_any x n V hn1 (by omega))
  have HM2 := Lib.hid (fun x => modI_lt x hn1)
  have D0 : Hid (∀ V, Below w.heap.size w V → V.cell? ⟨bA, oA, none⟩ = some (.slice B0 n c0)) := Lib.hid (fun V hV => (hV.cell (p := ⟨bA, _, none⟩) hbA).trans d0)
  clear h hb d0
  go_enter Tryd.func47, Tryd.ntmps47
  go_wp2
  go_loopw [5, 6] (fun v i wr => ∃ q : Nat, q ≤ n ∧ i = .int .i64 q ∧ wr.ownsRow w.heap.size 3 1 v (stL (inB l n) q).length (iv (stL (inB l n) q)) ∧ Below w.heap.size w wr) (fun _ i _ => n - (intOf i).toNat)
  case atStart => exact ⟨0, by omega, rfl, o0, b0⟩
  case round =>
    clear o0 b0
    obtain ⟨q, hq, rfl, o0, b0⟩ := hrel
    have d0 := D0.out wr b0
    obtain ⟨A2, c2, rfl, -, -, -⟩ := own_intsI o0
    have hlq := HL.out q
    by_cases hlt : q < n
    · have g1 : decide (q < n) = true := decide_eq_true hlt
      have g1' : decide ((q : Int) < (n : Int)) = true := decide_eq_true (by omega)
      have HZ1 := Lib.hid (HZ.out q)
      have HP1 := Lib.hid (HP.out q)
      have HI1 := Lib.hid (HIB.out q)
      have HS1 := Lib.hid (HS.out q)
      have e1 : ((l.length : Int) == 0) = decide (l.length = 0) := by rw [Bool.eq_iff_iff, beq_iff_eq, decide_eq_true_eq]; omega
      have e2 : ((q : Int) == 0) = decide (q = 0) := by rw [Bool.eq_iff_iff, beq_iff_eq, decide_eq_true_eq]; omega
      have HB1 := Lib.hid (HB.out wr b0)
      have e3 : ((l.length : Int) == 0 && (q : Int) == 0) = inP l n q 0 := by rw [HZ1.out, e1, e2]
      clear HB HZ HP HIB HS D0 HZ1
      have H0 : Hid (((l.length : Int) == 0 && (q : Int) == 0) = inP l n q 0) := Lib.hid e3
      clear e3
      cases hl0 : ((l.length : Int) == 0)
      · rw [hl0, Bool.false_and] at H0
        clear e1
        go_wp2
        obtain ⟨W, hW⟩ : ∃ W, W = wr := ⟨_, rfl⟩
        subst hW
        go_loopw [7, 8] (fun v i wr => ∃ j m : Nat, i = .int .i64 j ∧ j ≤ min l.length 20 ∧ v = .bool (inP l n q j) ∧ wr = W.drewN m) (fun _ i _ => 20 - (intOf i).toNat)
        case atStart => exact ⟨0, 0, rfl, by omega, by first | (rw [← H0.out]; done) | rw [← H0.out, e2], rfl⟩
        case round =>
          obtain ⟨j, m, rfl, hj, rfl, rfl⟩ := hrel
          have HP2 := Lib.hid (HP1.out j)
          by_cases hjl : j < min l.length 20
          · have g2 : decide (j < l.length) = true := decide_eq_true (by omega)
            have g2' : decide ((j : Int) < (l.length : Int)) = true := decide_eq_true (by omega)
            have g3 : decide (j < 20) = true := decide_eq_true (by omega)
            have g3' : decide ((j : Int) < 20) = true := decide_eq_true (by omega)
            have hjL : j < l.length := by omega
            obtain ⟨bB, oB, rfl, hbB, hcB⟩ := HB1.out (by omega)
            have cj : W.cell? ⟨bB, oB + j, none⟩ = some (.int .i64 (geti l j)) := hcB j hjL
            have HI : Hid (∀ k, Calls Tryd.prog 48 #[.int .i64 (geti l j), .int .i64 n] (W.drewN (m + k)) fun e w' => e = .returned (.int .i64 (modI (geti l j) n : Nat)) ∧ W.drewN (m + k) = w') := Lib.hid (fun k => HMD.out _ _)
            have hm2 := HM2.out (geti l j)
            have e4 : (((modI (geti l j) n : Nat) : Int) == (q : Int)) = (modI (geti l j) n == q) := by rw [Bool.eq_iff_iff, beq_iff_eq, beq_iff_eq]; omega
            generalize modI (geti l j) n = y at *
            generalize geti l j = x at *
            clear hcB HMD HM2
            cases hb : inP l n q j
            · rw [hb, Bool.false_or] at HP2
              go_wp2
              refine wp_region_quiet_lit (by kernel_rfl) (by kernel_rfl) ?_
              repeat go_big_quiet_step (((go_at_call 48; first | exact quiet_same2 (HI.out _) | exact quiet_same (HI.out _))))
              refine wpQuiet_nil ?_
              rintro _ ⟨nq, rfl⟩
              go_wp2
              go_roundw
              case rel => exact ⟨j + 1, m + nq, by go_num, by omega, by rw [HP2.out, ← e4], by first | rfl | exact World.drewN_drewN _ _ _⟩
              case measure => simp [intOf]; omega
            · rw [hb, Bool.true_or] at HP2
              go_wp2
              refine wp_region_quiet_lit (by kernel_rfl) (by kernel_rfl) ?_
              repeat go_big_quiet_step (((go_at_call 48; first | exact quiet_same2 (HI.out _) | exact quiet_same (HI.out _))))
              refine wpQuiet_nil ?_
              rintro _ ⟨nq, rfl⟩
              go_wp2
              go_roundw
              case rel => exact ⟨j + 1, m + nq, by go_num, by omega, by rw [HP2.out], by first | rfl | exact World.drewN_drewN _ _ _⟩
              case measure => simp [intOf]; omega
          · have hje : j = min l.length 20 := by omega
            have HIJ : Hid (inP l n q j = inB l n q) := Lib.hid (by rw [hje]; exact HI1.out)
            clear hj hje
            rw [HIJ.out]
            have b1 : Below w.heap.size w (W.drewN m) := b0.trans (below_drewN m)
            have o1 : (W.drewN m).ownsRow w.heap.size 3 1 (.slice A2 (stL (inB l n) q).length c2) (stL (inB l n) q).length (iv (stL (inB l n) q)) := o0
            clear o0 b0 d0 HB1 HP1 HP2 HMD HM2 HI1
            generalize World.drewN W m = V at *
            generalize hX : stL (inB l n) q = X at *
            clear hX
            have hbs := b1.size
            have hnr : Row (V.alloc (.cells #[.int .i64 (q : Int)] 3)) V.heap.size 3 [.int .i64 (q : Int)] := row_new rfl
            have HEND : ∀ Z : List Int, Hid (stL (inB l n) (q + 1) = Z) → True := fun _ _ => trivial
            clear HEND
            by_cases h1 : j < l.length
            · have g2 : decide (j < l.length) = true := decide_eq_true h1
              have g2' : decide ((j : Int) < (l.length : Int)) = true := decide_eq_true (by omega)
              have g3 : decide (j < 20) = false := decide_eq_false (by omega)
              have g3' : decide ((j : Int) < 20) = false := decide_eq_false (by omega)
              cases hb : inB l n q
              · rw [hb, if_neg (by simp)] at HS1
                go_wp2
                go_roundw
                case rel => exact ⟨q + 1, by omega, by go_num, by rw [HS1.out]; exact o1, b1⟩
                case measure => simp [intOf]; omega
              · rw [hb, if_pos rfl] at HS1
                go_wp2_with ((with_reducible refine (?_ : wpList _ _ _ (Oper.mk (some 52) _ _ _ _ _ :: _) _ _)); refine wpList_append_own_at _ rfl _ _ 29 rfl w.heap.size 3 j0 (.int .i64 0) 1 8 Tryd.underlying29 ji jz0 jz1 jz2 rfl (by decide) _ _ _ rfl (o1.alloc _) ⟨V.heap.size, 0, none⟩ 1 1 [.int .i64 (q : Int)] rfl rfl (news_one hnr) (by simp [Value.oneCell']) (by unfold maxLen; omega) (by omega) (by simp; omega) ?_; intro v2 w2 o2 hg2 _ _; have b4 := b1.trans (app1' o1 hbs hg2))
                go_roundw
                case rel => exact ⟨q + 1, by omega, by go_num, by rw [HS1.out, iv_snoc, List.length_append]; exact o2, b4⟩
                case measure => simp [intOf]; omega
            · have g2 : decide (j < l.length) = false := decide_eq_false h1
              have g2' : decide ((j : Int) < (l.length : Int)) = false := decide_eq_false (by omega)
              cases hb : inB l n q
              · rw [hb, if_neg (by simp)] at HS1
                go_wp2
                go_roundw
                case rel => exact ⟨q + 1, by omega, by go_num, by rw [HS1.out]; exact o1, b1⟩
                case measure => simp [intOf]; omega
              · rw [hb, if_pos rfl] at HS1
                go_wp2_with ((with_reducible refine (?_ : wpList _ _ _ (Oper.mk (some 52) _ _ _ _ _ :: _) _ _)); refine wpList_append_own_at _ rfl _ _ 29 rfl w.heap.size 3 j0 (.int .i64 0) 1 8 Tryd.underlying29 ji jz0 jz1 jz2 rfl (by decide) _ _ _ rfl (o1.alloc _) ⟨V.heap.size, 0, none⟩ 1 1 [.int .i64 (q : Int)] rfl rfl (news_one hnr) (by simp [Value.oneCell']) (by unfold maxLen; omega) (by omega) (by simp; omega) ?_; intro v2 w2 o2 hg2 _ _; have b4 := b1.trans (app1' o1 hbs hg2))
                go_roundw
                case rel => exact ⟨q + 1, by omega, by go_num, by rw [HS1.out, iv_snoc, List.length_append]; exact o2, b4⟩
                case measure => simp [intOf]; omega
      · rw [hl0, Bool.true_and] at H0
        clear e1
        go_wp2
        obtain ⟨W, hW⟩ : ∃ W, W = wr := ⟨_, rfl⟩
        subst hW
        go_loopw [7, 8] (fun v i wr => ∃ j m : Nat, i = .int .i64 j ∧ j ≤ min l.length 20 ∧ v = .bool (inP l n q j) ∧ wr = W.drewN m) (fun _ i _ => 20 - (intOf i).toNat)
        case atStart => exact ⟨0, 0, rfl, by omega, by first | (rw [← H0.out]; done) | rw [← H0.out, e2], rfl⟩
        case round =>
          obtain ⟨j, m, rfl, hj, rfl, rfl⟩ := hrel
          have HP2 := Lib.hid (HP1.out j)
          by_cases hjl : j < min l.length 20
          · have g2 : decide (j < l.length) = true := decide_eq_true (by omega)
            have g2' : decide ((j : Int) < (l.length : Int)) = true := decide_eq_true (by omega)
            have g3 : decide (j < 20) = true := decide_eq_true (by omega)
            have g3' : decide ((j : Int) < 20) = true := decide_eq_true (by omega)
            have hjL : j < l.length := by omega
            obtain ⟨bB, oB, rfl, hbB, hcB⟩ := HB1.out (by omega)
            have cj : W.cell? ⟨bB, oB + j, none⟩ = some (.int .i64 (geti l j)) := hcB j hjL
            have HI : Hid (∀ k, Calls Tryd.prog 48 #[.int .i64 (geti l j), .int .i64 n] (W.drewN (m + k)) fun e w' => e = .returned (.int .i64 (modI (geti l j) n : Nat)) ∧ W.drewN (m + k) = w') := Lib.hid (fun k => HMD.out _ _)
            have hm2 := HM2.out (geti l j)
            have e4 : (((modI (geti l j) n : Nat) : Int) == (q : Int)) = (modI (geti l j) n == q) := by rw [Bool.eq_iff_iff, beq_iff_eq, beq_iff_eq]; omega
            generalize modI (geti l j) n = y at *
            generalize geti l j = x at *
            clear hcB HMD HM2
            cases hb : inP l n q j
            · rw [hb, Bool.false_or] at HP2
              go_wp2
              refine wp_region_quiet_lit (by kernel_rfl) (by kernel_rfl) ?_
              repeat go_big_quiet_step (((go_at_call 48; first | exact quiet_same2 (HI.out _) | exact quiet_same (HI.out _))))
              refine wpQuiet_nil ?_
              rintro _ ⟨nq, rfl⟩
              go_wp2
              go_roundw
              case rel => exact ⟨j + 1, m + nq, by go_num, by omega, by rw [HP2.out, ← e4], by first | rfl | exact World.drewN_drewN _ _ _⟩
              case measure => simp [intOf]; omega
            · rw [hb, Bool.true_or] at HP2
              go_wp2
              refine wp_region_quiet_lit (by kernel_rfl) (by kernel_rfl) ?_
              repeat go_big_quiet_step (((go_at_call 48; first | exact quiet_same2 (HI.out _) | exact quiet_same (HI.out _))))
              refine wpQuiet_nil ?_
              rintro _ ⟨nq, rfl⟩
              go_wp2
              go_roundw
              case rel => exact ⟨j + 1, m + nq, by go_num, by omega, by rw [HP2.out], by first | rfl | exact World.drewN_drewN _ _ _⟩
              case measure => simp [intOf]; omega
          · have hje : j = min l.length 20 := by omega
            have HIJ : Hid (inP l n q j = inB l n q) := Lib.hid (by rw [hje]; exact HI1.out)
            clear hj hje
            rw [HIJ.out]
            have b1 : Below w.heap.size w (W.drewN m) := b0.trans (below_drewN m)
            have o1 : (W.drewN m).ownsRow w.heap.size 3 1 (.slice A2 (stL (inB l n) q).length c2) (stL (inB l n) q).length (iv (stL (inB l n) q)) := o0
            clear o0 b0 d0 HB1 HP1 HP2 HMD HM2 HI1
            generalize World.drewN W m = V at *
            generalize hX : stL (inB l n) q = X at *
            clear hX
            have hbs := b1.size
            have hnr : Row (V.alloc (.cells #[.int .i64 (q : Int)] 3)) V.heap.size 3 [.int .i64 (q : Int)] := row_new rfl
            have HEND : ∀ Z : List Int, Hid (stL (inB l n) (q + 1) = Z) → True := fun _ _ => trivial
            clear HEND
            by_cases h1 : j < l.length
            · have g2 : decide (j < l.length) = true := decide_eq_true h1
              have g2' : decide ((j : Int) < (l.length : Int)) = true := decide_eq_true (by omega)
              have g3 : decide (j < 20) = false := decide_eq_false (by omega)
              have g3' : decide ((j : Int) < 20) = false := decide_eq_false (by omega)
              cases hb : inB l n q
              · rw [hb, if_neg (by simp)] at HS1
                go_wp2
                go_roundw
                case rel => exact ⟨q + 1, by omega, by go_num, by rw [HS1.out]; exact o1, b1⟩
                case measure => simp [intOf]; omega
              · rw [hb, if_pos rfl] at HS1
                go_wp2_with ((with_reducible refine (?_ : wpList _ _ _ (Oper.mk (some 52) _ _ _ _ _ :: _) _ _)); refine wpList_append_own_at _ rfl _ _ 29 rfl w.heap.size 3 j0 (.int .i64 0) 1 8 Tryd.underlying29 ji jz0 jz1 jz2 rfl (by decide) _ _ _ rfl (o1.alloc _) ⟨V.heap.size, 0, none⟩ 1 1 [.int .i64 (q : Int)] rfl rfl (news_one hnr) (by simp [Value.oneCell']) (by unfold maxLen; omega) (by omega) (by simp; omega) ?_; intro v2 w2 o2 hg2 _ _; have b4 := b1.trans (app1' o1 hbs hg2))
                go_roundw
                case rel => exact ⟨q + 1, by omega, by go_num, by rw [HS1.out, iv_snoc, List.length_append]; exact o2, b4⟩
                case measure => simp [intOf]; omega
            · have g2 : decide (j < l.length) = false := decide_eq_false h1
              have g2' : decide ((j : Int) < (l.length : Int)) = false := decide_eq_false (by omega)
              cases hb : inB l n q
              · rw [hb, if_neg (by simp)] at HS1
                go_wp2
                go_roundw
                case rel => exact ⟨q + 1, by omega, by go_num, by rw [HS1.out]; exact o1, b1⟩
                case measure => simp [intOf]; omega
              · rw [hb, if_pos rfl] at HS1
                go_wp2_with ((with_reducible refine (?_ : wpList _ _ _ (Oper.mk (some 52) _ _ _ _ _ :: _) _ _)); refine wpList_append_own_at _ rfl _ _ 29 rfl w.heap.size 3 j0 (.int .i64 0) 1 8 Tryd.underlying29 ji jz0 jz1 jz2 rfl (by decide) _ _ _ rfl (o1.alloc _) ⟨V.heap.size, 0, none⟩ 1 1 [.int .i64 (q : Int)] rfl rfl (news_one hnr) (by simp [Value.oneCell']) (by unfold maxLen; omega) (by omega) (by simp; omega) ?_; intro v2 w2 o2 hg2 _ _; have b4 := b1.trans (app1' o1 hbs hg2))
                go_roundw
                case rel => exact ⟨q + 1, by omega, by go_num, by rw [HS1.out, iv_snoc, List.length_append]; exact o2, b4⟩
                case measure => simp [intOf]; omega
    · obtain rfl : q = n := by omega
      have g1 : decide (q < q) = false := decide_eq_false hlt
      have g1' : decide ((q : Int) < (q : Int)) = false := decide_eq_false (by omega)
      rw [HE.out] at o0 hlq ⊢
      clear HB HZ HP HIB HS D0 HE
      go_wp2
      go_ret
      exact ⟨_, rfl, o0, b0⟩
end Go.Proofs.YtignbpipdfjkeaaDoor
/- ClockInside walked, for every input. -/
/- ClockInside walked. -/
namespace Go.Proofs.YtignbpipdfjkeaaDoor
open Go.RowKit Go.PlainAid
set_option maxHeartbeats 2000000
set_option maxRecDepth 100000
theorem cin_none (A B : Option Addr) (m c n d : Nat) (s0 s1 x y RS : ByteArray) (RQ RE : Int) (w : World) (M : List (List Int)) (P U O : List Int) (hre : RE = 6)
    (HT : Hid (Calls Tryd.prog 44 #[.slice A m c] (w.alloc (.cells #[.string s0, .string s1] 65)) (TabM (w.alloc (.cells #[.string s0, .string s1] 65)) M)))
    (HAW : Hid (∀ V, Below w.heap.size w V → Calls Tryd.prog 22 #[] V fun e w' => e = .returned (.bool true) ∧ Below V.heap.size V w'))
    (H1 : Hid (∀ V A c, Calls Tryd.prog 46 #[.slice A M.length c, .string s0, .int .i64 60] V fun e w' => e = .returned (.string x) ∧ Below V.heap.size V w'))
    (H2 : Hid (∀ V A c, Calls Tryd.prog 46 #[.slice A M.length c, .string s1, .int .i64 60] V fun e w' => e = .returned (.string y) ∧ Below V.heap.size V w'))
    (HS : Hid (∀ V A c, Below w.heap.size w V → RowsAt V A M → Calls Tryd.prog 47 #[.slice A M.length c, .slice B n d] V (LstR V P)))
    (HR : Hid (∀ V A c, Below w.heap.size w V → RowsAt V A M → Calls Tryd.prog 17 #[.slice A M.length c] V fun e w' => e = .returned (.tuple #[.string RS, .int .i64 RQ, .int .i64 RE]) ∧ Below V.heap.size V w'))
    (HI1 : Hid (∀ V A c B d, Below w.heap.size w V → RowsAt V A M → IntsAt V B P → Calls Tryd.prog 32 #[.slice A M.length c, .slice B P.length d, .string x] V (LstER V U 0)))
    (HI2 : Hid (∀ V A c B d, Below w.heap.size w V → RowsAt V A M → IntsAt V B U → Calls Tryd.prog 32 #[.slice A M.length c, .slice B U.length d, .string y] V (LstER V O 0)))
    (HI3 : Hid (∀ V A c B d, Below w.heap.size w V → RowsAt V A M → IntsAt V B P → Calls Tryd.prog 32 #[.slice A M.length c, .slice B P.length d, .string (x ++ y)] V (LstER V O 0)))
    (hU : U.length ≤ P.length) (hU1 : 1 ≤ U.length) (hO : O.length ≤ U.length) (hP : P.length ≤ 9) (hx : x.size ≤ 60) (hy : y.size ≤ 60) :
    Calls Tryd.prog 10 #[.slice A m c, .agg #[.string s0, .string s1], .slice B n d] w fun e w' => e = .returned (.bool true) ∧ Below w.heap.size w w' := by
  subst hre
  have b0 := Below.refl w.heap.size w
  have r0 : Row (w.alloc (.cells #[.string s0, .string s1] 65)) w.heap.size 65 [.string s0, .string s1] := row_new rfl
  replace b0 := b0.alloc (Nat.le_refl _) (.cells #[.string s0, .string s1] 65)
  have q1 : decide (P.length < U.length) = false := decide_eq_false (by omega)
  have q2 : decide (U.length < 1) = false := decide_eq_false (by omega)
  have q2' : decide ((U.length : Int) < 1) = false := decide_eq_false (by omega)
  have q3 : decide (U.length < O.length) = false := decide_eq_false (by omega)
  have hll : O.length ≤ 9 := by omega
  have HIN : Hid (∀ V A B c d, IntsAt V A O → IntsAt V B O → Calls Tryd.prog 25 #[.slice A O.length c, .slice B O.length d] V fun e w' => e = .returned (.bool true) ∧ ∃ n, w' = V.drewN n) := Lib.hid (fun V A B c d ha hb => by
    have := ints_any A B c d O O V (by omega) (by omega) ha hb
    rwa [decide_eq_true rfl] at this)
  have hx1 : x.size + y.size ≤ 1000 := by omega
  clear hU hU1 hO hP hx hy hll
  go_enter Tryd.func10, Tryd.ntmps10
  go_wp2_with (go_at_call 44; refine HT.out.mono ?_; rintro e w1 ⟨A1, c1, rfl, ra, b1⟩; replace b0 := b0.trans (b1.mono b0.size); replace r0 := r0.below b1)
  have k0 : ∀ u : After w1, u.v.cell? ⟨w.heap.size, 0, none⟩ = some (.string s0) := fun u => After.cell (r0.cell 0) u
  have k1 : ∀ u : After w1, u.v.cell? ⟨w.heap.size, 1, none⟩ = some (.string s1) := fun u => After.cell (r0.cell 1) u
  clear r0 b1
  refine wp_region_class_tail (C := fun w' => ∃ u : After _, w' = u.v) 8 (by kernel_rfl) (by kernel_rfl) (isAfter_start _) ?_
  simp only [List.take_succ_cons, List.take_zero, List.drop_succ_cons, List.drop_zero]
  try simp only [Act.put]
  repeat (go_big_quiet_step ((first | (with_reducible refine (H1.out _ _ _).mono ?_; rintro e w8 ⟨rfl, b8⟩; exact ⟨rfl, After.done _ b8⟩) | (with_reducible refine (H2.out _ _ _).mono ?_; rintro e w8 ⟨rfl, b8⟩; exact ⟨rfl, After.done _ b8⟩))))
  refine wpQuiet_nil ?_
  rintro _ ⟨ua, rfl⟩
  have st3 := ra.below ua.h
  have b03 := b0.trans (ua.h.mono b0.size)
  clear k0 k1 ra b0 H1 H2 HT
  generalize ua.v = W3 at *
  go_wp2_with (first
    | (go_at_call 47; ((with_reducible refine (HS.out _ _ _ b03 st3).mono ?_); rintro e w4 ⟨A4, c4, rfl, i4, b4⟩); replace st3 := st3.below b4; replace b03 := b03.trans (b4.mono b03.size))
    | (go_at_call 17; ((with_reducible refine (HR.out _ _ _ b03 st3).mono ?_); rintro e w5 ⟨rfl, b5⟩); replace st3 := st3.below b5; replace i4 := i4.below b5; replace b03 := b03.trans (b5.mono b03.size))
    | (go_at_call 32; first
      | ((with_reducible refine (HI1.out _ _ _ _ _ b03 st3 i4).mono ?_); rintro e w6 ⟨A6, c6, rfl, i6, b6⟩; replace st3 := st3.below b6; replace i4 := i4.below b6; replace b03 := b03.trans (b6.mono b03.size))
      | ((with_reducible refine (HI2.out _ _ _ _ _ b03 st3 i6).mono ?_); rintro e w7 ⟨A7, c7, rfl, i7, b7⟩; replace st3 := st3.below b7; replace i4 := i4.below b7; replace i6 := i6.below b7; replace b03 := b03.trans (b7.mono b03.size))
      | ((with_reducible refine (HI3.out _ _ _ _ _ b03 st3 i4).mono ?_); rintro e w8 ⟨A8, c8, rfl, i8, b8⟩; replace st3 := st3.below b8; replace i7 := i7.below b8; replace b03 := b03.trans (b8.mono b03.size)))
    | (go_at_call 25; ((with_reducible refine (HIN.out _ _ _ _ _ i7 i8).mono ?_); rintro e _ ⟨rfl, nq, rfl⟩); replace st3 := st3.below (below_drewN nq); replace b03 := b03.trans (below_drewN nq); generalize World.drewN _ nq = w9 at *)
    | (go_at_call 22; ((with_reducible refine (HAW.out _ b03).mono ?_); rintro e w13 ⟨rfl, b13⟩); replace b03 := b03.trans (b13.mono b03.size)))
  go_ret
  exact ⟨rfl, b03⟩
theorem cin_some (A B : Option Addr) (m c n d : Nat) (s0 s1 x y RS : ByteArray) (RQ RE : Int) (w : World) (M : List (List Int)) (P U O G Z : List Int) (F : Nat) (hre : RE = 0)
    (HT : Hid (Calls Tryd.prog 44 #[.slice A m c] (w.alloc (.cells #[.string s0, .string s1] 65)) (TabM (w.alloc (.cells #[.string s0, .string s1] 65)) M)))
    (HAW : Hid (∀ V, Below w.heap.size w V → Calls Tryd.prog 22 #[] V fun e w' => e = .returned (.bool true) ∧ Below V.heap.size V w'))
    (H1 : Hid (∀ V A c, Calls Tryd.prog 46 #[.slice A M.length c, .string s0, .int .i64 60] V fun e w' => e = .returned (.string x) ∧ Below V.heap.size V w'))
    (H2 : Hid (∀ V A c, Calls Tryd.prog 46 #[.slice A M.length c, .string s1, .int .i64 60] V fun e w' => e = .returned (.string y) ∧ Below V.heap.size V w'))
    (HS : Hid (∀ V A c, Below w.heap.size w V → RowsAt V A M → Calls Tryd.prog 47 #[.slice A M.length c, .slice B n d] V (LstR V P)))
    (HR : Hid (∀ V A c, Below w.heap.size w V → RowsAt V A M → Calls Tryd.prog 17 #[.slice A M.length c] V fun e w' => e = .returned (.tuple #[.string RS, .int .i64 RQ, .int .i64 RE]) ∧ Below V.heap.size V w'))
    (HI1 : Hid (∀ V A c B d, Below w.heap.size w V → RowsAt V A M → IntsAt V B P → Calls Tryd.prog 32 #[.slice A M.length c, .slice B P.length d, .string x] V (LstER V U 0)))
    (HI2 : Hid (∀ V A c B d, Below w.heap.size w V → RowsAt V A M → IntsAt V B U → Calls Tryd.prog 32 #[.slice A M.length c, .slice B U.length d, .string y] V (LstER V O 0)))
    (HI3 : Hid (∀ V A c B d, Below w.heap.size w V → RowsAt V A M → IntsAt V B P → Calls Tryd.prog 32 #[.slice A M.length c, .slice B P.length d, .string (x ++ y)] V (LstER V O 0)))
    (hU : U.length ≤ P.length) (hU1 : 1 ≤ U.length) (hO : O.length ≤ U.length) (hP : P.length ≤ 9) (hx : x.size ≤ 60) (hy : y.size ≤ 60)
    (hrs : RS.size ≤ 288)
    (HW : Hid (∀ V A c, Calls Tryd.prog 34 #[.slice A M.length c, .string RS] V fun e w' => e = .returned (.bool true) ∧ V = w'))
    (HA : Hid (∀ V A c, RowsAt V A M → Calls Tryd.prog 24 #[.slice A M.length c] V fun e w' => e = .returned (.int .i64 (F : Nat)) ∧ V = w'))
    (HL : Hid (∀ V, Calls Tryd.prog 27 #[.int .i64 (F : Nat)] V (LstR V G)))
    (HI4 : Hid (∀ V A c B d, Below w.heap.size w V → RowsAt V A M → IntsAt V B G → Calls Tryd.prog 32 #[.slice A M.length c, .slice B G.length d, .string (x ++ RS ++ y)] V (LstER V Z 0))) (_hG : G.length ≤ 9) (hZ : Z.length = 1) :
    Calls Tryd.prog 10 #[.slice A m c, .agg #[.string s0, .string s1], .slice B n d] w fun e w' => e = .returned (.bool true) ∧ Below w.heap.size w w' := by
  subst hre
  have b0 := Below.refl w.heap.size w
  have r0 : Row (w.alloc (.cells #[.string s0, .string s1] 65)) w.heap.size 65 [.string s0, .string s1] := row_new rfl
  replace b0 := b0.alloc (Nat.le_refl _) (.cells #[.string s0, .string s1] 65)
  have q1 : decide (P.length < U.length) = false := decide_eq_false (by omega)
  have q2 : decide (U.length < 1) = false := decide_eq_false (by omega)
  have q2' : decide ((U.length : Int) < 1) = false := decide_eq_false (by omega)
  have q3 : decide (U.length < O.length) = false := decide_eq_false (by omega)
  have hll : O.length ≤ 9 := by omega
  have HIN : Hid (∀ V A B c d, IntsAt V A O → IntsAt V B O → Calls Tryd.prog 25 #[.slice A O.length c, .slice B O.length d] V fun e w' => e = .returned (.bool true) ∧ ∃ n, w' = V.drewN n) := Lib.hid (fun V A B c d ha hb => by
    have := ints_any A B c d O O V (by omega) (by omega) ha hb
    rwa [decide_eq_true rfl] at this)
  have hzl : ((Z.length : Int) == 1) = true := by rw [hZ]; rfl
  have q5 : decide ((500 : Int) < (RS.size : Int)) = false := decide_eq_false (by omega)
  have q5' : decide (500 < RS.size) = false := decide_eq_false (by omega)
  have HZ := Lib.hid hZ
  have hx2 : x.size + RS.size ≤ 1000 := by omega
  have hx3 : x.size + RS.size + y.size ≤ 1000 := by omega
  have hx4 : (x ++ RS).size + y.size ≤ 1000 := by rw [ByteArray.size_append]; omega
  clear hZ hrs
  have hx1 : x.size + y.size ≤ 1000 := by omega
  clear hU hU1 hO hP hx hy hll
  go_enter Tryd.func10, Tryd.ntmps10
  go_wp2_with (go_at_call 44; refine HT.out.mono ?_; rintro e w1 ⟨A1, c1, rfl, ra, b1⟩; replace b0 := b0.trans (b1.mono b0.size); replace r0 := r0.below b1)
  have k0 : ∀ u : After w1, u.v.cell? ⟨w.heap.size, 0, none⟩ = some (.string s0) := fun u => After.cell (r0.cell 0) u
  have k1 : ∀ u : After w1, u.v.cell? ⟨w.heap.size, 1, none⟩ = some (.string s1) := fun u => After.cell (r0.cell 1) u
  clear r0 b1
  refine wp_region_class_tail (C := fun w' => ∃ u : After _, w' = u.v) 8 (by kernel_rfl) (by kernel_rfl) (isAfter_start _) ?_
  simp only [List.take_succ_cons, List.take_zero, List.drop_succ_cons, List.drop_zero]
  try simp only [Act.put]
  repeat (go_big_quiet_step ((first | (with_reducible refine (H1.out _ _ _).mono ?_; rintro e w8 ⟨rfl, b8⟩; exact ⟨rfl, After.done _ b8⟩) | (with_reducible refine (H2.out _ _ _).mono ?_; rintro e w8 ⟨rfl, b8⟩; exact ⟨rfl, After.done _ b8⟩))))
  refine wpQuiet_nil ?_
  rintro _ ⟨ua, rfl⟩
  have st3 := ra.below ua.h
  have b03 := b0.trans (ua.h.mono b0.size)
  clear k0 k1 ra b0 H1 H2 HT
  generalize ua.v = W3 at *
  go_wp2_with (first
    | (go_at_call 47; ((with_reducible refine (HS.out _ _ _ b03 st3).mono ?_); rintro e w4 ⟨A4, c4, rfl, i4, b4⟩); replace st3 := st3.below b4; replace b03 := b03.trans (b4.mono b03.size))
    | (go_at_call 17; ((with_reducible refine (HR.out _ _ _ b03 st3).mono ?_); rintro e w5 ⟨rfl, b5⟩); replace st3 := st3.below b5; replace i4 := i4.below b5; replace b03 := b03.trans (b5.mono b03.size))
    | (go_at_call 32; first
      | ((with_reducible refine (HI1.out _ _ _ _ _ b03 st3 i4).mono ?_); rintro e w6 ⟨A6, c6, rfl, i6, b6⟩; replace st3 := st3.below b6; replace i4 := i4.below b6; replace b03 := b03.trans (b6.mono b03.size))
      | ((with_reducible refine (HI2.out _ _ _ _ _ b03 st3 i6).mono ?_); rintro e w7 ⟨A7, c7, rfl, i7, b7⟩; replace st3 := st3.below b7; replace i4 := i4.below b7; replace i6 := i6.below b7; replace b03 := b03.trans (b7.mono b03.size))
      | ((with_reducible refine (HI3.out _ _ _ _ _ b03 st3 i4).mono ?_); rintro e w8 ⟨A8, c8, rfl, i8, b8⟩; replace st3 := st3.below b8; replace i7 := i7.below b8; replace b03 := b03.trans (b8.mono b03.size))
      | ((with_reducible refine (HI4.out _ _ _ _ _ b03 st3 i9).mono ?_); rintro e w10 ⟨A10, c10, rfl, i10, b10⟩; replace b03 := b03.trans (b10.mono b03.size); clear i10))
    | (go_at_call 25; ((with_reducible refine (HIN.out _ _ _ _ _ i7 i8).mono ?_); rintro e _ ⟨rfl, nq, rfl⟩); replace st3 := st3.below (below_drewN nq); replace b03 := b03.trans (below_drewN nq); generalize World.drewN _ nq = w9 at *)
    | (go_at_call 34; ((with_reducible refine (HW.out _ _ _).mono ?_); rintro e w11 ⟨rfl, rfl⟩))
    | (go_at_call 24; ((with_reducible refine (HA.out _ _ _ st3).mono ?_); rintro e w11 ⟨rfl, rfl⟩))
    | (go_at_call 27; ((with_reducible refine (HL.out _).mono ?_); rintro e w12 ⟨A9, c9, rfl, i9, b9⟩); replace st3 := st3.below b9; replace b03 := b03.trans (b9.mono b03.size))
    | (go_at_call 22; ((with_reducible refine (HAW.out _ b03).mono ?_); rintro e w13 ⟨rfl, b13⟩); replace b03 := b03.trans (b13.mono b03.size)))
  go_ret
  exact ⟨rfl, b03⟩
end Go.Proofs.YtignbpipdfjkeaaDoor
/- ClockInside: the walk for every input. -/
namespace Go.Proofs.YtignbpipdfjkeaaDoor
open Go.RowKit Go.PlainAid
set_option maxHeartbeats 2000000
set_option maxRecDepth 100000
section
variable {H : Type} {enc : TypeId × Value → H} {W : World}
theorem open_arr2s {r : Reach} {b0 : Nat} {v : Value} {d : DataW H} {p : List MemPlace} (hv : Value.okWide Tryd.prog W r b0 65 v) (h : DataW.Trod enc Tryd.prog W 0 (fun _ => true) true 65 v d p) :
    ∃ x y : ByteArray, v = .agg #[.string x, .string y] ∧ x.size ≤ maxLen ∧ y.size ≤ maxLen := by
  have hc : Tryd.prog.cellsOf 65 = 2 := by kernel_rfl
  have hc9 : Tryd.prog.cellsOf 9 = 1 := by kernel_rfl
  obtain ⟨cs, rfl, hs⟩ : ∃ cs, v = .agg cs ∧ cs.size = 2 := by
    simp only [Value.okWide, Tryd.underlying65] at hv
    obtain ⟨cs, h1, h2, _⟩ := hv
    exact ⟨cs, h1, by rw [h2, hc]⟩
  obtain ⟨fuel, hf⟩ := h
  obtain ⟨xs, k, _, _, _, hxl, hat⟩ := DataW.trod_array Tryd.underlying65 hf
  obtain ⟨l⟩ := cs
  match l, hs with
  | [c0, c1], _ =>
    have h0 := hat 0 (by omega)
    have h1 := hat 1 (by omega)
    rw [hc9, List.getElem?_eq_getElem (by omega)] at h0 h1
    obtain ⟨y0, e0, _, z0⟩ := DataW.trod_string Tryd.underlying9 h0
    obtain ⟨y1, e1, _, z1⟩ := DataW.trod_string Tryd.underlying9 h1
    simp [Value.cells] at e0 e1
    exact ⟨y0, y1, by rw [e0, e1], z0, z1⟩
end
/-- The word that word makes. -/
def wdM (k most : Nat) (s : ByteArray) : List Nat := wdP k s (min s.size most)
theorem wdM_ok {k : Nat} (hk : 1 ≤ k) (most : Nat) (s : ByteArray) : okW k (wdM k most s) := wdP_ok hk s _
theorem wdM_len (k most : Nat) (s : ByteArray) : (wdM k most s).length ≤ most := by unfold wdM; rw [wdP_len]; omega
theorem Image_set (A B : Option Addr) (c d : Nat) (M : List (List Int)) (S : Nat) (X : List Nat) (w : World) (h : IsMI M) (ha : RowsAt w A M) (hS : IsS (nS M) S) (hb : IntsAt w B (lsI S)) (hX : okW M.length X) (hl : X.length ≤ 1000) (ht : TabW w) :
    Calls Tryd.prog 32 #[.slice A M.length c, .slice B (lsI S).length d, .string (wS X)] w (LstER w (lsI (img (tabN M) S X)) 0) := by
  have h1 := set512 h.n9 hS
  have hk := h.k4
  have h9 := sz_le S
  have := Image_yes A B c d M (lsI S) (wS X) w h (by rw [lsI_len]; omega) ha hb (okS_ls h.n9 hS) (okB_wS hk hX hl) (by rw [wS_len]; omega) ht
  rw [setL_ls h1, imP_all (tabN M) S (fun b hb => by have := hX b hb; omega)] at this
  exact this.mono fun _ _ h => h.lst
theorem clockInside_any (A : Option Addr) (c : Nat) (L : List (List Int)) (s0 s1 : ByteArray) (B : Option Addr) (d : Nat) (l : List Int) (w : World) (ht : TabW w) (hx : L.length ≤ c) (hc : c ≤ maxLen) (ha : RowsIn w A L) (hs0 : s0.size ≤ maxLen) (hs1 : s1.size ≤ maxLen) (hl : l.length ≤ d) (hd : d ≤ maxLen) (hb : IntsAt w B l) :
    Calls Tryd.prog 10 #[.slice A L.length c, .agg #[.string s0, .string s1], .slice B l.length d] w fun e w' => e = .returned (.bool true) ∧ Below w.heap.size w w' := by
  unfold maxLen at hs0 hs1 hd
  obtain ⟨M, h, hT⟩ := tame_any A c L w hx hc ha
  have hn9 := h.n9
  have hk4 := h.k4
  have HAW := Lib.hid (fun (V : World) (hV : Below w.heap.size w V) => awake_any V (ht.below hV ht.lt))
  obtain ⟨X, hX⟩ : ∃ X, wdM M.length 60 s0 = X := ⟨_, rfl⟩
  obtain ⟨Y, hY⟩ : ∃ Y, wdM M.length 60 s1 = Y := ⟨_, rfl⟩
  have oX : okW M.length X := hX ▸ wdM_ok h.k1 60 s0
  have oY : okW M.length Y := hY ▸ wdM_ok h.k1 60 s1
  have lX : X.length ≤ 60 := hX ▸ wdM_len M.length 60 s0
  have lY : Y.length ≤ 60 := hY ▸ wdM_len M.length 60 s1
  obtain ⟨S, hS⟩ : ∃ S, stN l (nS M) = S := ⟨_, rfl⟩
  have iS : IsS (nS M) S := hS ▸ stN_set l (nS M)
  have nS0 : S ≠ 0 := hS ▸ stN_ne l h.n1
  have iU := img_set h.isM iS oX
  have H1 : Hid (∀ V A c, Calls Tryd.prog 46 #[.slice A M.length c, .string s0, .int .i64 60] V fun e w' => e = .returned (.string (wS X)) ∧ Below V.heap.size V w') := Lib.hid (fun V A c => by
    rw [← hX]; exact word_any A c M.length 60 s0 V h.k1 hk4 (by omega) (by decide))
  have H2 : Hid (∀ V A c, Calls Tryd.prog 46 #[.slice A M.length c, .string s1, .int .i64 60] V fun e w' => e = .returned (.string (wS Y)) ∧ Below V.heap.size V w') := Lib.hid (fun V A c => by
    rw [← hY]; exact word_any A c M.length 60 s1 V h.k1 hk4 (by omega) (by decide))
  have HS : Hid (∀ V A c, Below w.heap.size w V → RowsAt V A M → Calls Tryd.prog 47 #[.slice A M.length c, .slice B l.length d] V (LstR V (lsI S))) := Lib.hid (fun V A c hV ha => by
    rw [← hS]; exact (states_any A B c d M l V h ha (hb.below hV) (by omega)).mono fun _ _ h => h.lst)
  have HI1 : Hid (∀ V A c B d, Below w.heap.size w V → RowsAt V A M → IntsAt V B (lsI S) → Calls Tryd.prog 32 #[.slice A M.length c, .slice B (lsI S).length d, .string (wS X)] V (LstER V (lsI (img (tabN M) S X)) 0)) :=
    Lib.hid (fun V A c B d hV ha hb => Image_set A B c d M S X V h ha iS hb oX (by omega) (ht.below hV ht.lt))
  have HI2 : Hid (∀ V A c B d, Below w.heap.size w V → RowsAt V A M → IntsAt V B (lsI (img (tabN M) S X)) → Calls Tryd.prog 32 #[.slice A M.length c, .slice B (lsI (img (tabN M) S X)).length d, .string (wS Y)] V (LstER V (lsI (img (tabN M) S (X ++ Y))) 0)) :=
    Lib.hid (fun V A c B d hV ha hb => by rw [img_app]; exact Image_set A B c d M _ Y V h ha iU hb oY (by omega) (ht.below hV ht.lt))
  have HI3 : Hid (∀ V A c B d, Below w.heap.size w V → RowsAt V A M → IntsAt V B (lsI S) → Calls Tryd.prog 32 #[.slice A M.length c, .slice B (lsI S).length d, .string (wS X ++ wS Y)] V (LstER V (lsI (img (tabN M) S (X ++ Y))) 0)) :=
    Lib.hid (fun V A c B d hV ha hb => by rw [wS_app]; exact Image_set A B c d M S (X ++ Y) V h ha iS hb (okW_app.2 ⟨oX, oY⟩) (by rw [List.length_append]; omega) (ht.below hV ht.lt))
  have u1 := img_sz h.isM iS oX
  have u2 := sz_pos hn9 iU (img_ne h.isM iS nS0 oX)
  have u3 := img_sz h.isM iU oY
  rw [← img_app] at u3
  have u4 := sz_le S
  have HRS := fun (V : World) A c (hV : Below w.heap.size w V) ha => Reset_yes A c M V h ha (ht.below hV ht.lt)
  have hw0 : Below w.heap.size w (w.alloc (.cells #[.string s0, .string s1] 65)) := (Below.refl _ w).alloc (Nat.le_refl _) _
  have HT := Lib.hid (hT _ hw0)
  cases hR : rsX M with
  | none =>
    rw [hR] at HRS
    exact cin_none A B L.length c l.length d s0 s1 (wS X) (wS Y) ⟨#[]⟩ 0 6 w M _ _ _ rfl HT HAW H1 H2 HS (Lib.hid HRS) HI1 HI2 HI3 (by rw [lsI_len, lsI_len]; exact u1) (by rw [lsI_len]; exact u2) (by rw [lsI_len, lsI_len]; exact u3) (by rw [lsI_len]; exact u4) (by rw [wS_len]; exact lX) (by rw [wS_len]; exact lY)
  | some r =>
    obtain ⟨t, x⟩ := r
    rw [hR] at HRS
    have hF := full_set (n := nS M) h.n1
    obtain ⟨ox, ix, gx, -⟩ := seek_some h.isM hF hR
    have lx := seek_short h.isM hR
    have hz := reset_inside h.isM oX ox oY (by rw [ix]; exact of_decide_eq_true gx)
    have HW : Hid (∀ V A c, Calls Tryd.prog 34 #[.slice A M.length c, .string (wS x)] V fun e w' => e = .returned (.bool true) ∧ V = w') := Lib.hid (fun V A c => by
      have := refWord_any A c M.length (wS x) V (by rw [wS_len]; omega) (by omega)
      rwa [okB_wS hk4 ox (by omega)] at this)
    have HA : Hid (∀ V A c, RowsAt V A M → Calls Tryd.prog 24 #[.slice A M.length c] V fun e w' => e = .returned (.int .i64 ((2 ^ nS M - 1 : Nat) : Nat)) ∧ V = w') := Lib.hid (fun V A c ha => refAll_any A c M V h ha)
    have HL : Hid (∀ V, Calls Tryd.prog 27 #[.int .i64 ((2 ^ nS M - 1 : Nat) : Nat)] V (LstR V (lsI (2 ^ nS M - 1)))) := Lib.hid (fun V => (refList_any _ V (set512 hn9 hF)).mono fun _ _ h => h.lst)
    have HI4 : Hid (∀ V A c B d, Below w.heap.size w V → RowsAt V A M → IntsAt V B (lsI (2 ^ nS M - 1)) → Calls Tryd.prog 32 #[.slice A M.length c, .slice B (lsI (2 ^ nS M - 1)).length d, .string (wS X ++ wS x ++ wS Y)] V (LstER V (lsI (img (tabN M) (2 ^ nS M - 1) (X ++ (x ++ Y)))) 0)) :=
      Lib.hid (fun V A c B d hV ha hb => by
        rw [wS_app, wS_app, List.append_assoc]
        exact Image_set A B c d M _ _ V h ha hF hb (okW_app.2 ⟨oX, okW_app.2 ⟨ox, oY⟩⟩) (by rw [List.length_append, List.length_append]; omega) (ht.below hV ht.lt))
    exact cin_some A B L.length c l.length d s0 s1 (wS X) (wS Y) (wS x) (tzS t) 0 w M _ _ _ _ _ (2 ^ nS M - 1) rfl HT HAW H1 H2 HS (Lib.hid HRS) HI1 HI2 HI3 (by rw [lsI_len, lsI_len]; exact u1) (by rw [lsI_len]; exact u2) (by rw [lsI_len, lsI_len]; exact u3) (by rw [lsI_len]; exact u4) (by rw [wS_len]; exact lX) (by rw [wS_len]; exact lY) (by rw [wS_len]; exact lx) HW HA HL HI4 (by rw [lsI_len]; exact sz_le _) (by rw [lsI_len]; exact hz)
end Go.Proofs.YtignbpipdfjkeaaDoor
