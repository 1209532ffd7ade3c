/- What SumsFree needs. -/
import Derived.Test.YtokjdadgdfmffaaPF
import Derived.Test.YtokjdadgdfmffaaPC
import Derived.Test.YtokjdadgdfmffaaNE
/- What SumsFree needs. -/
namespace Go.Proofs.Ytokjdadgdfmffaa
open Go.RowKit Ols
set_option maxRecDepth 100000
theorem sub_one_mod {a : Int} {m : Nat} (h0 : 0 ≤ a) (h1 : a < m) : (a - 1) % m = if a = 0 then (m : Int) - 1 else a - 1 := by
  by_cases h : a = 0
  · rw [if_pos h, ← Int.add_emod_right, Int.emod_eq_of_lt (by omega) (by omega)]; omega
  · rw [if_neg h, Int.emod_eq_of_lt (by omega) (by omega)]
theorem sR_right {m n : Nat} : ∀ q, q + 1 ≤ m → ∀ a b, El m n a b → sR m n (List.replicate q (1, 0)) a b = decide (¬ (a = 0 ∧ b = 0) ∧ a ≤ q ∧ b = 0)
  | 0, _, a, b, h => by
    obtain ⟨a0, a1, b0, b1⟩ := h
    show false = _
    exact (decide_eq_false (by omega)).symm
  | q + 1, hq, a, b, h => by
    have ih := sR_right (m := m) (n := n) q (by omega)
    obtain ⟨a0, a1, b0, b1⟩ := h
    rw [List.replicate_succ]
    unfold sR
    rw [ih a b ⟨a0, a1, b0, b1⟩]
    have hb : (b - 0) % (n : Int) = b := by rw [Int.sub_zero, Int.emod_eq_of_lt b0 b1]
    have hE : El m n ((a - 1) % m) b := ⟨Int.emod_nonneg _ (by omega), Int.emod_lt_of_pos _ (by omega), b0, b1⟩
    show (_ || (decide ((1 : Int) = a ∧ (0 : Int) = b) || sR m n (List.replicate q (1, 0)) ((a - 1) % m) ((b - 0) % n))) = _
    rw [hb, ih _ _ hE, sub_one_mod a0 a1, ← Bool.decide_or, ← Bool.decide_or]
    refine decide_eq_decide.2 ?_
    split <;> omega
theorem sR_free {m n : Nat} (hm : 1 ≤ m) : ∀ p, p + 1 ≤ n → ∀ a b, El m n a b → sR m n (List.replicate p (0, 1) ++ List.replicate (m - 1) (1, 0)) a b = decide (¬ (a = 0 ∧ b = 0) ∧ b ≤ p)
  | 0, _, a, b, h => by
    rw [List.replicate_zero, List.nil_append, sR_right (m - 1) (by omega) a b h]
    obtain ⟨a0, a1, b0, b1⟩ := h
    exact decide_eq_decide.2 (by omega)
  | p + 1, hp, a, b, h => by
    have ih := sR_free (m := m) (n := n) hm p (by omega)
    obtain ⟨a0, a1, b0, b1⟩ := h
    rw [List.replicate_succ, List.cons_append]
    unfold sR
    rw [ih a b ⟨a0, a1, b0, b1⟩]
    have ha : (a - 0) % (m : Int) = a := by rw [Int.sub_zero, Int.emod_eq_of_lt a0 a1]
    have hE : El m n a ((b - 1) % n) := ⟨a0, a1, Int.emod_nonneg _ (by omega), Int.emod_lt_of_pos _ (by omega)⟩
    show (_ || (decide ((0 : Int) = a ∧ (1 : Int) = b) || sR m n (List.replicate p (0, 1) ++ List.replicate (m - 1) (1, 0)) ((a - 0) % m) ((b - 1) % n))) = _
    rw [ha, ih _ _ hE, sub_one_mod b0 b1, ← Bool.decide_or, ← Bool.decide_or]
    refine decide_eq_decide.2 ?_
    split <;> omega
/-- The free list as lists. -/
def freeLL (m n : Nat) : List (List Int) := (freeL m n).map (dec m)
theorem rlE_dec {g : List Int} {m n : Nat} (hg : IsG g m n) : rlE m (freeLL m n) = freeL m n := by
  unfold rlE freeLL
  rw [List.map_map]
  have h1 : ∀ x ∈ freeL m n, ((fun xs => (elA m xs, elB m xs)) ∘ dec m) x = x := fun x hx => by
    unfold freeL at hx
    unfold dec
    by_cases hm : m = 1
    · subst hm
      simp only [Nat.sub_self, List.replicate_zero, List.append_nil] at hx
      rw [List.eq_of_mem_replicate hx]; rfl
    · simp [elA, elB, hm]
  rw [List.map_congr_left h1, List.map_id'']
  intro x; rfl
theorem free_el {g : List Int} {m n : Nat} (hg : IsG g m n) : ∀ x ∈ freeL m n, El m n x.1 x.2 := fun x hx => by
  have h2 : 2 ≤ n := hg.2.2.1
  have h1 := hg.1.1
  unfold freeL at hx
  rcases List.mem_append.1 hx with h | h
  · rw [List.eq_of_mem_replicate h]; exact ⟨by omega, by omega, by omega, by omega⟩
  · have hm : 1 ≤ m - 1 := by
      by_cases h0 : m - 1 = 0
      · rw [h0] at h; simp at h
      · omega
    rw [List.eq_of_mem_replicate h]; exact ⟨by omega, by omega, by omega, by omega⟩
theorem elV_dec {g : List Int} {m n : Nat} (hg : IsG g m n) {x : Int × Int} (h : El m n x.1 x.2) : elV m n (dec m x) = true ∧ (dec m x).length = g.length := by
  obtain ⟨a0, a1, b0, b1⟩ := h
  unfold dec
  obtain ⟨_, ⟨rfl, hm⟩ | ⟨rfl, hm⟩, _⟩ := hg
  · rw [if_pos hm]; exact ⟨decide_eq_true ⟨hm, b0, b1⟩, rfl⟩
  · rw [if_neg (by omega)]; exact ⟨decide_eq_true ⟨by omega, ⟨a0, a1⟩, b0, b1⟩, rfl⟩
theorem getl_map {f : Int × Int → List Int} {ds : List (Int × Int)} {i : Nat} (h : i < ds.length) : getl (ds.map f) i = f ds[i] := by
  unfold getl
  rw [List.getD_eq_getElem?_getD, List.getElem?_map, List.getElem?_eq_getElem h]; rfl
theorem free_rl {g : List Int} {m n : Nat} (hg : IsG g m n) : rlV m n (freeLL m n) = true := by
  have hl := freeL_len hg.1
  have := hg.1.2.1
  have := hg.1.2.2.2
  refine decide_eq_true ⟨by unfold freeLL; rw [List.length_map]; omega, fun i hi => ?_⟩
  unfold freeLL at hi ⊢
  rw [List.length_map] at hi
  rw [getl_map hi]
  exact (elV_dec hg (free_el hg _ (List.getElem_mem hi))).1
theorem free_none {g : List Int} {m n : Nat} (hg : IsG g m n) : zrL m n (freeLL m n) 0 0 = [] := by
  have h := sR_free (m := m) (n := n) hg.1.1 (n - 1) (by have := hg.1.2.2.1; omega) 0 0 (el_zero hg.1)
  have h2 := sR_sh (m := m) (n := n) (freeL m n) 0 0 0
  unfold zrL
  rw [rlE_dec hg]
  have h3 : decide (shF m n 0 (freeL m n) 0 0 ≠ []) = false := by
    rw [← h2]
    show sR m n (List.replicate (n - 1) (0, 1) ++ List.replicate (m - 1) (1, 0)) 0 0 = false
    rw [h]
    exact decide_eq_false (by simp)
  simpa using h3
/-- A part of a free list is free. -/
theorem tail_free {m n : Nat} {x : List Int} {L : List (List Int)} (h : zrL m n (x :: L) 0 0 = []) : zrL m n L 0 0 = [] := by
  have h1 := sR_sh (m := m) (n := n) (rlE m (x :: L)) 0 0 0
  have h2 := sR_sh (m := m) (n := n) (rlE m L) 0 0 0
  unfold zrL at h ⊢
  rw [h, decide_eq_false (by simp)] at h1
  show shF m n 0 (rlE m L) 0 0 = []
  have h3 : sR m n (rlE m L) 0 0 = false := by
    have : sR m n ((elA m x, elB m x) :: rlE m L) 0 0 = false := h1
    unfold sR at this
    simp at this
    exact this.1
  rw [h3] at h2
  simpa using h2.symm
/-- With a further element the list is not free. -/
theorem more_some {g : List Int} {m n : Nat} (hg : IsG g m n) {X : List (List Int)} (hX : X.length = 1) (hv : rlV m n (freeLL m n ++ X) = true) : zrL m n (freeLL m n ++ X) 0 0 ≠ [] := fun h => by
  have h1 := always_none hg hv h
  have h2 := freeL_len hg.1
  rw [List.length_append, hX] at h1
  unfold freeLL at h1
  rw [List.length_map] at h1
  omega
end Go.Proofs.Ytokjdadgdfmffaa
/- A free list has many sums. -/
namespace Go.Proofs.Ytokjdadgdfmffaa
open Go.RowKit Ols
set_option maxRecDepth 100000
theorem many_sums {g : List Int} {m n : Nat} {L : List (List Int)} (hg : IsG g m n) (hv : rlV m n L = true) (h0 : zrL m n L 0 0 = []) : L.length ≤ (sumLL g m n L).length := by
  have hel := rl_el hg.1 hv
  have hgm := hg.1
  let es : Nat → Int × Int := fun x => (rlE m L).getD x (0, 0)
  have hes : rlE m L = (List.range' 0 L.length).map es := by
    have := range_es (rlE m L)
    rwa [rl_len] at this
  let A : Nat → Int := fun j => sF (fun x => (es x).1) (List.range' 0 (j + 1))
  let B : Nat → Int := fun j => sF (fun x => (es x).2) (List.range' 0 (j + 1))
  have part : ∀ (T : List Nat) (a b : Int), T.Sublist (List.range' 0 L.length) → T ≠ [] → El m n a b → a = sF (fun x => (es x).1) T % m → b = sF (fun x => (es x).2) T % n → zrL m n L a b ≠ [] := fun T a b hT hne hab ha hb hz => by
    have hE := hab
    obtain ⟨a0, a1, b0, b1⟩ := hab
    have h1 := isP_mk (m := m) (n := n) es L.length 0 T a b hT (by rw [Int.emod_eq_of_lt a0 a1]; exact ha) (by rw [Int.emod_eq_of_lt b0 b1]; exact hb) (fun h => absurd h hne) (Int.emod_eq_of_lt a0 a1).symm (Int.emod_eq_of_lt b0 b1).symm
    rw [← hes] at h1
    have h2 := sh_none hgm (rlE m L) hel 0 a b hE (by show (zrL m n L a b).length = 0; rw [hz]; rfl) _ h1
    exact hne (List.map_eq_nil_iff.1 h2)
  have hAB : ∀ j, El m n (A j % m) (B j % n) := fun j => el_mod hgm _ _
  have hin : ∀ j, j < L.length → cdN n (A j % m) (B j % n) ∈ cdF m n L := fun j hj => by
    obtain ⟨k1, k2, k3⟩ := cdN_ok (hAB j)
    refine List.mem_filter.2 ⟨List.mem_range.2 k1, decide_eq_true ?_⟩
    rw [k2, k3]
    refine part (List.range' 0 (j + 1)) _ _ ?_ (by simp) (hAB j) rfl rfl
    have : List.range' 0 L.length = List.range' 0 (j + 1) ++ List.range' (0 + (j + 1)) (L.length - (j + 1)) := by rw [List.range'_append_1]; congr 1; omega
    rw [this]
    exact List.sublist_append_left _ _
  have hdist : ∀ i j, i < j → j < L.length → cdN n (A i % m) (B i % n) ≠ cdN n (A j % m) (B j % n) := fun i j hij hj e => by
    obtain ⟨-, k2, k3⟩ := cdN_ok (hAB i)
    obtain ⟨-, l2, l3⟩ := cdN_ok (hAB j)
    rw [e] at k2 k3
    have e1 : A i % m = A j % m := k2.symm.trans l2
    have e2 : B i % n = B j % n := k3.symm.trans l3
    have hs : List.range' 0 (j + 1) = List.range' 0 (i + 1) ++ List.range' (0 + (i + 1)) (j - i) := by rw [List.range'_append_1]; congr 1; omega
    have hA : A j = A i + sF (fun x => (es x).1) (List.range' (0 + (i + 1)) (j - i)) := by show sF _ _ = _; rw [hs, sF_app]
    have hB : B j = B i + sF (fun x => (es x).2) (List.range' (0 + (i + 1)) (j - i)) := by show sF _ _ = _; rw [hs, sF_app]
    have z : ∀ {x y s : Int} {p : Nat}, y = x + s → x % p = y % p → 0 = s % p := fun {x y s p} h1 h2 => by
      have h3 : (y - x) % p = 0 := Int.emod_eq_emod_iff_emod_sub_eq_zero.1 h2.symm
      rw [show y - x = s by omega] at h3
      exact h3.symm
    refine part (List.range' (0 + (i + 1)) (j - i)) 0 0 ?_ (by simp; omega) (el_zero hgm) (z hA e1) (z hB e2) h0
    have : List.range' 0 L.length = List.range' 0 (j + 1) ++ List.range' (0 + (j + 1)) (L.length - (j + 1)) := by rw [List.range'_append_1]; congr 1; omega
    rw [this, hs]
    exact (List.sublist_append_right _ _).trans (List.sublist_append_left _ _)
  have hnd : ((List.range L.length).map fun j => cdN n (A j % m) (B j % n)).Nodup := by
    rw [List.Nodup, List.pairwise_map]
    refine List.Pairwise.imp_of_mem (fun {i j} hi hj hij => hdist i j hij (List.mem_range.1 hj)) List.pairwise_lt_range
  have hle := lenP _ (cdF m n L) hnd (fun x hx => by
    obtain ⟨j, hj, rfl⟩ := List.mem_map.1 hx
    exact hin j (List.mem_range.1 hj))
  rw [List.length_map, List.length_range] at hle
  unfold sumLL
  rw [List.length_map]
  exact hle
end Go.Proofs.Ytokjdadgdfmffaa
/- What the walk of SumsFree needs. -/
namespace Go.Proofs.Ytokjdadgdfmffaa
open Go.RowKit Ols
set_option maxHeartbeats 1000000
set_option maxRecDepth 100000
theorem RowsOwn.rc {w : World} {B : Nat} {cs : List Value} {L : List (List Int)} (h : RowsOwn w B cs L) : RowsC w cs L := ⟨h.1, fun j hj => by
  obtain ⟨v, h1, h2⟩ := h.2 j hj
  obtain ⟨A, c, rfl, -, -, hi⟩ := own_cap h2
  exact ⟨A, c, h1, hi⟩⟩
theorem RowsC.app {w : World} {cs ds : List Value} {L M : List (List Int)} (h : RowsC w cs L) (k : RowsC w ds M) : RowsC w (cs ++ ds) (L ++ M) := ⟨by rw [List.length_append, List.length_append, h.1, k.1], fun j hj => by
  by_cases hl : j < L.length
  · obtain ⟨B, c, h1, h2⟩ := h.2 j hl
    have e : getl (L ++ M) j = getl L j := by unfold getl; rw [List.getD_eq_getElem?_getD, List.getD_eq_getElem?_getD, List.getElem?_append_left hl]
    rw [e, List.getElem?_append_left (by rw [h.1]; exact hl)]
    exact ⟨B, c, h1, h2⟩
  · rw [List.length_append] at hj
    obtain ⟨B, c, h1, h2⟩ := k.2 (j - L.length) (by omega)
    have e : getl (L ++ M) j = getl M (j - L.length) := by unfold getl; rw [List.getD_eq_getElem?_getD, List.getD_eq_getElem?_getD, List.getElem?_append_right (by omega)]
    rw [e, List.getElem?_append_right (by rw [h.1]; omega), h.1]
    exact ⟨B, c, h1, h2⟩⟩
theorem RowsOwn.grownR {w w' : World} {B C n : Nat} {cs xs : List Value} {L : List (List Int)} {V : Value} (h : RowsOwn w B cs L) (ho : w.ownsRow C 22 1 V n xs) (hg : w.grownBy w' V.ownBlock) : RowsOwn w' B cs L := ⟨h.1, fun j hj => by
  obtain ⟨v, h1, h2⟩ := h.2 j hj
  refine ⟨v, h1, h2.kept hg ?_⟩
  rcases h2.2 with ⟨rfl, _⟩ | ⟨g, cap, cur, rfl, hb, hgc, _⟩
  · exact .inl rfl
  · refine .inr fun e => ?_
    rcases ho.2 with ⟨rfl, _⟩ | ⟨g', cap', cur', rfl, hb', hgc', _⟩
    · cases e
    · have e2 : g = g' := by simpa [Value.ownBlock] using e
      subst e2
      rw [hgc] at hgc'
      cases hgc'⟩
theorem news_row {w : World} {B c : Nat} {A : Option Addr} {cs : List Value} {L : List (List Int)} (ho : w.ownsRow B 22 1 (.slice A 1 c) 1 cs) (hr : RowsOwn w B cs L) (hl : L.length = 1) :
    ∃ g v, A = some ⟨g, 0, none⟩ ∧ cs = [v] ∧ (∀ j u, [v][j]? = some u → w.cell? ((⟨g, 0, none⟩ : Addr).add j) = some u) ∧ v.oneCell' = true := by
  have hcl : cs.length = 1 := by rw [hr.1, hl]
  obtain ⟨v, rfl⟩ : ∃ v, cs = [v] := by
    match cs, hcl with
    | [v], _ => exact ⟨v, rfl⟩
  obtain ⟨v', h1, h2⟩ := hr.2 0 (by omega)
  obtain rfl : v = v' := by simpa using h1
  obtain ⟨A', c', rfl, -, -, -⟩ := own_cap h2
  rcases ho.2 with ⟨h3, h0⟩ | ⟨g, cap, cur, h3, hb, hg, hc1, hc2, hc3, hc4⟩
  · omega
  · injection h3 with h3 h4 h5
    refine ⟨g, _, h3, rfl, fun j u hu => ?_, rfl⟩
    have hj : j = 0 := by have := (List.getElem?_eq_some_iff.1 hu).1; simp at this; omega
    subst hj
    rw [WideShapes.add_plain, Nat.zero_add]
    simp only [World.cell?, hg]
    have := congrArg (fun l => l[0]?) hc4
    simp only [List.getElem?_take] at this
    rw [if_pos (by omega)] at this
    rw [← hu, ← this]; simp
theorem table_free {g : List Int} {m n : Nat} (hg : IsG g m n) (A : Option Addr) (c : Nat) (w : World) (ha : RowsIn w A (freeLL m n)) :
    Calls Try.prog 15 #[.slice A (freeLL m n).length c] w fun e w' => ∃ A' c' cs, e = .returned (.slice A' (freeLL m n).length c') ∧ w'.ownsRow w.heap.size 22 1 (.slice A' (freeLL m n).length c') (freeLL m n).length cs ∧ RowsOwn w' w.heap.size cs (freeLL m n) ∧ Below w.heap.size w w' := by
  have hfl := freeL_len hg.1
  have hm := hg.1.2.1
  have hn := hg.1.2.2.2
  have hl : (freeLL m n).length ≤ 46 := by unfold freeLL; rw [List.length_map]; omega
  have h := table_any A c (freeLL m n) w (by unfold maxLen; omega) ha
  rw [Nat.min_eq_left (by omega)] at h
  have e : tbR (freeLL m n) (freeLL m n).length = freeLL m n := by
    unfold tbR
    rw [List.take_length]
    have : ∀ l ∈ freeLL m n, l.take 3 = l := fun l hl => by
      unfold freeLL at hl
      obtain ⟨x, -, rfl⟩ := List.mem_map.1 hl
      unfold dec
      split <;> rfl
    rw [List.map_congr_left this, List.map_id'']
    intro x; rfl
  rw [e] at h
  exact h.mono fun e w' ⟨A', c', cs, h1, h2, h3, h4⟩ => ⟨A', c', cs, h1, h2, h3, h4⟩
theorem tail_at {w : World} {g9 c3 : Nat} {x : List Int} {L : List (List Int)} (h : RowsAt w (some ⟨g9, 0, none⟩) (x :: L)) (hc : L.length + 1 ≤ c3) : RowsAt w (if c3 = 1 then some ⟨g9, 0, none⟩ else some ⟨g9, 1, none⟩) L := fun hp => by
  rw [if_neg (by omega)]
  obtain ⟨b, o, e, hb, hcs⟩ := h (by simp)
  injection e with e
  injection e with e1 e2
  subst e1 e2
  refine ⟨_, 1, rfl, hb, fun i hi => ?_⟩
  obtain ⟨B, c, h1, h2⟩ := hcs (i + 1) (by simp; omega)
  have e : getl (x :: L) (i + 1) = getl L i := rfl
  rw [e] at h1 h2
  refine ⟨B, c, ?_, h2⟩
  rw [Nat.zero_add, Nat.add_comm i 1] at h1
  exact h1
theorem zero_tail {g : List Int} {m n : Nat} (hg : IsG g m n) : ∀ (L : List (List Int)), L.length ≤ 60 → Els m n L → (∀ i, i < L.length → (getl L i).length ≤ 1000000) → zrL m n L 0 0 = [] → 0 < L.length → ∀ (Ag : Option Addr) (cg g9 c3 : Nat), L.length ≤ c3 → ∀ W, IntsAt W Ag g → RowsAt W (some ⟨g9, 0, none⟩) L →
    Calls Try.prog 16 #[.slice Ag g.length cg, .slice (if c3 = 1 then some ⟨g9, 0, none⟩ else some ⟨g9, 1, none⟩) (L.length - 1) (c3 - 1)] W (NoneR W 6)
  | [], _, _, _, _, hp => absurd hp (by simp)
  | x :: T, hl, hE, hr, hz, _ => fun Ag cg g9 c3 hc W h1 h2 => by
    have hvt : rlV m n T = true := decide_eq_true ⟨by simp at hl; omega, fun i hi => (hE (i + 1) (by simp; omega)).1⟩
    exact Zero_none Ag _ cg (c3 - 1) m n g T W hg (fun i hi => hr (i + 1) (by simp; omega)) h1 (tail_at h2 (by simpa using hc)) hvt (tail_free hz)
theorem nz_pos {m n : Nat} : ∀ {L : List (List Int)}, zrL m n L 0 0 ≠ [] → 0 < L.length
  | [], h => absurd rfl h
  | _ :: _, _ => by simp
theorem els_one {g : List Int} {m n : Nat} (hg : IsG g m n) {L2 : List (List Int)} (h : Els m n L2) (hl : L2.length = 1) : rlV m n (freeLL m n ++ L2) = true := by
  have hfl := freeL_len hg.1
  have hm := hg.1.2.1
  have hn := hg.1.2.2.2
  have hll : (freeLL m n).length ≤ 46 := by unfold freeLL; rw [List.length_map]; omega
  have hv := (of_decide_eq_true (free_rl hg) : (freeLL m n).length ≤ 60 ∧ ∀ i, i < (freeLL m n).length → elV m n (getl (freeLL m n) i) = true)
  refine decide_eq_true ⟨by rw [List.length_append]; omega, fun i hi => ?_⟩
  by_cases hl2 : i < (freeLL m n).length
  · have e : getl (freeLL m n ++ L2) i = getl (freeLL m n) i := by unfold getl; rw [List.getD_eq_getElem?_getD, List.getD_eq_getElem?_getD, List.getElem?_append_left hl2]
    rw [e]; exact hv.2 i hl2
  · rw [List.length_append] at hi
    have e : getl (freeLL m n ++ L2) i = getl L2 (i - (freeLL m n).length) := by unfold getl; rw [List.getD_eq_getElem?_getD, List.getD_eq_getElem?_getD, List.getElem?_append_right (by omega)]
    rw [e]; exact (h _ (by omega)).1
end Go.Proofs.Ytokjdadgdfmffaa
