/- What the sums are. -/
import Derived.Test.YtokjdadgdfmffaaPB
import Derived.Test.YtokjdadgdfmffaaND
import Derived.Test.YtokjdadgdfmffaaME
import Derived.Test.YtokjdadgdfmffaaKM
/- What the sums are. -/
namespace Go.Proofs.Ytokjdadgdfmffaa
open Go.RowKit Go.Sort Ols
set_option maxRecDepth 100000
theorem sR_swap {m n : Nat} (_hg : Gr m n) (e f : Int × Int) (he : El m n e.1 e.2) (hf : El m n f.1 f.2) (l : List (Int × Int)) (a b : Int) (h : El m n a b) : sR m n (e :: f :: l) a b = sR m n (f :: e :: l) a b := by
  have key : ∀ {p : Nat} {x y z : Int}, 0 ≤ x → x < p → 0 ≤ y → y < p → 0 ≤ z → z < p → (x = (z - y) % p ↔ y = (z - x) % p) := by
    intro p x y z x0 x1 y0 y1 z0 z1
    have hs : ∀ {u v : Int}, 0 ≤ u → u < p → 0 ≤ v → v < p → (u - v) % p = if v ≤ u then u - v else u - v + p := fun {u v} u0 u1 v0 v1 => by
      by_cases hv : v ≤ u
      · rw [if_pos hv, Int.emod_eq_of_lt (by omega) (by omega)]
      · rw [if_neg hv, ← Int.add_emod_right, Int.emod_eq_of_lt (by omega) (by omega)]
    rw [hs z0 z1 y0 y1, hs z0 z1 x0 x1]
    (repeat' split) <;> omega
  obtain ⟨e1, e2⟩ := e
  obtain ⟨f1, f2⟩ := f
  obtain ⟨a1, a2, a3, a4⟩ := he
  obtain ⟨b1, b2, b3, b4⟩ := hf
  obtain ⟨c1, c2, c3, c4⟩ := h
  simp only at a1 a2 a3 a4 b1 b2 b3 b4
  simp only [sR]
  have k1 : decide (f1 = (a - e1) % m ∧ f2 = (b - e2) % n) = decide (e1 = (a - f1) % m ∧ e2 = (b - f2) % n) :=
    decide_eq_decide.2 (and_congr (key b1 b2 a1 a2 c1 c2) (key b3 b4 a3 a4 c3 c4))
  have k2 : ((a - e1) % m - f1) % m = ((a - f1) % m - e1) % m := by
    rw [Int.emod_sub_emod, Int.emod_sub_emod, show a - e1 - f1 = a - f1 - e1 by omega]
  have k3 : ((b - e2) % n - f2) % n = ((b - f2) % n - e2) % n := by
    rw [Int.emod_sub_emod, Int.emod_sub_emod, show b - e2 - f2 = b - f2 - e2 by omega]
  rw [k1, k2, k3]
  cases sR m n l a b <;> cases decide (f1 = a ∧ f2 = b) <;> cases decide (e1 = a ∧ e2 = b) <;> cases sR m n l ((a - f1) % m) ((b - f2) % n) <;> cases sR m n l ((a - e1) % m) ((b - e2) % n) <;> cases decide (e1 = (a - f1) % m ∧ e2 = (b - f2) % n) <;> cases sR m n l (((a - f1) % m - e1) % m) (((b - f2) % n - e2) % n) <;> rfl
theorem sR_perm {m n : Nat} (hg : Gr m n) {l l' : List (Int × Int)} (hp : l.Perm l') : (∀ e ∈ l, El m n e.1 e.2) → ∀ a b, El m n a b → sR m n l a b = sR m n l' a b := by
  induction hp with
  | nil => intro _ _ _ _; rfl
  | cons x _ ih =>
    intro h a b hab
    have ih := ih fun e he => h e (List.mem_cons_of_mem _ he)
    simp only [sR]
    rw [ih a b hab, ih _ _ (el_mod hg _ _)]
  | swap x y l => intro h a b hab; exact sR_swap hg y x (h y (by simp)) (h x (by simp)) l a b hab
  | trans p q ih1 ih2 =>
    intro h a b hab
    rw [ih1 h a b hab, ih2 (fun e he => h e (p.mem_iff.2 he)) a b hab]
theorem sR_sh {m n : Nat} : ∀ (l : List (Int × Int)) (i : Nat) (a b : Int), sR m n l a b = decide (shF m n i l a b ≠ [])
  | [], _, _, _ => rfl
  | e :: l, i, a, b => by
    have h1 := sR_sh (m := m) (n := n) l (i + 1) a b
    have h2 := sR_sh (m := m) (n := n) l (i + 1) ((a - e.1) % m) ((b - e.2) % n)
    unfold sR shF
    rw [h1, h2]
    by_cases he : e.1 = a ∧ e.2 = b
    · rw [if_pos he, decide_eq_true he]; simp
    · rw [if_neg he, decide_eq_false he]
      simp only
      generalize shF m n (i + 1) l a b = p
      generalize shF m n (i + 1) l ((a - e.1) % m) ((b - e.2) % n) = r
      cases p <;> cases r <;> simp
      split <;> simp
theorem sumL_z {m n : Nat} {L : List (List Int)} (hg : Gr m n) (hv : rlV m n L = true) {a b : Int} (h : El m n a b) : sR m n (prf (rlE m L) (rlE m L).length) a b = decide (zrL m n L a b ≠ []) := by
  unfold prf zrL
  rw [List.take_length, sR_perm hg (List.reverse_perm _) (fun e he => rl_el hg hv e (by simpa using he)) a b h, sR_sh _ 0]
/-- The sums' numbers. -/
def cdF (m n : Nat) (L : List (List Int)) : List Nat := (List.range (m * n)).filter fun c => decide (zrL m n L ((c / n : Nat) : Int) ((c % n : Nat) : Int) ≠ [])
theorem el_code {m n c : Nat} (hn : 1 ≤ n) (h : c < m * n) : El m n ((c / n : Nat) : Int) ((c % n : Nat) : Int) := by
  have h1 : c / n < m := Nat.div_lt_of_lt_mul (by rwa [Nat.mul_comm])
  have h2 : c % n < n := Nat.mod_lt _ (by omega)
  exact ⟨Int.natCast_nonneg _, Int.ofNat_lt.2 h1, Int.natCast_nonneg _, Int.ofNat_lt.2 h2⟩
theorem srt_cd {m n : Nat} {L : List (List Int)} (hg : Gr m n) (hv : rlV m n L = true) {ss : List (Int × Int)} (h : SumL m n (rlE m L) ss) : srt2 ss = (cdF m n L).map fun c => (((c / n : Nat) : Int), ((c % n : Nat) : Int)) := by
  obtain ⟨hn, hel, hm⟩ := h
  have hn1 : 1 ≤ n := hg.2.2.1
  have inj : ∀ c d : Nat, (((c / n : Nat) : Int), ((c % n : Nat) : Int)) = (((d / n : Nat) : Int), ((d % n : Nat) : Int)) → c = d := fun c d e => by
    injection e with e1 e2
    have h1 := Nat.div_add_mod c n
    have h2 := Nat.div_add_mod d n
    rw [show c / n = d / n by omega, show c % n = d % n by omega] at h1
    omega
  have hlt : ((cdF m n L).map fun c => (((c / n : Nat) : Int), ((c % n : Nat) : Int))).Pairwise fun x y => lt2 y x = false ∧ x ≠ y := by
    refine List.pairwise_map.2 ((List.Pairwise.filter _ List.pairwise_lt_range).imp fun {c d} hcd => ?_)
    refine ⟨?_, fun e => by have := inj _ _ e; omega⟩
    rw [lt2_iff]
    refine decide_eq_false fun hx => ?_
    simp only at hx
    have h1 := Nat.div_add_mod c n
    have h2 := Nat.div_add_mod d n
    rcases hx with hx | ⟨hx, hy⟩
    · have h3 : d / n + 1 ≤ c / n := by omega
      have h4 := Nat.mul_le_mul_left n h3
      have h5 := Nat.mod_lt d (show 0 < n by omega)
      rw [Nat.mul_add, Nat.mul_one] at h4
      omega
    · rw [show d / n = c / n by omega] at h2
      omega
  have hperm : ss.Perm ((cdF m n L).map fun c => (((c / n : Nat) : Int), ((c % n : Nat) : Int))) := by
    refine (List.perm_ext_iff_of_nodup hn (hlt.imp fun h => h.2)).2 fun x => ?_
    constructor
    · intro hx
      have hE := hel x hx
      have h1 := (hm x hE).1 hx
      rw [sumL_z hg hv hE] at h1
      obtain ⟨k1, k2, k3⟩ := cdN_ok (n := n) hE
      refine List.mem_map.2 ⟨cdN n x.1 x.2, List.mem_filter.2 ⟨List.mem_range.2 k1, ?_⟩, ?_⟩
      · rw [k2, k3]; exact h1
      · rw [k2, k3]
    · intro hx
      obtain ⟨c, hc, rfl⟩ := List.mem_map.1 hx
      obtain ⟨hc1, hc2⟩ := List.mem_filter.1 hc
      have hE := el_code hn1 (List.mem_range.1 hc1)
      refine (hm _ hE).2 ?_
      rw [sumL_z hg hv hE]; exact hc2
  have tr : ∀ a b c : Int × Int, (!lt2 b a) = true → (!lt2 c b) = true → (!lt2 c a) = true := fun a b c h1 h2 => by
    rw [lt2_iff] at *
    simp only [Bool.not_eq_true', decide_eq_false_iff_not] at *
    omega
  have tto : ∀ a b : Int × Int, ((!lt2 b a) || (!lt2 a b)) = true := fun a b => by
    rw [lt2_iff, lt2_iff]
    by_cases h1 : b.1 < a.1 ∨ b.1 = a.1 ∧ b.2 < a.2
    · rw [decide_eq_true h1, decide_eq_false (by omega)]; rfl
    · rw [decide_eq_false h1]; rfl
  unfold srt2
  refine List.Perm.eq_of_pairwise (le := fun a b => (!lt2 b a) = true) (fun a b _ _ h1 h2 => ?_) (List.pairwise_mergeSort tr tto ss) (hlt.imp fun h => by rw [h.1]; rfl) ((List.mergeSort_perm ss _).trans hperm)
  exact tot2 a b (by simpa using h2) (by simpa using h1)
theorem dec_dcL {g : List Int} {m n c : Nat} (hg : IsG g m n) (hc : c < m * n) : dec m (((c / n : Nat) : Int), ((c % n : Nat) : Int)) = dcL g n c := by
  unfold dec dcL
  obtain ⟨_, ⟨rfl, h1⟩ | ⟨rfl, h1⟩, _⟩ := hg
  · subst h1
    rw [if_pos rfl, if_pos (show [(n : Int)].length = 1 from rfl)]
    show [((c % n : Nat) : Int)] = [(c : Int)]
    rw [Nat.mod_eq_of_lt (by omega)]
  · rw [if_neg (by omega), if_neg (by simp)]
/-- The sums as lists. -/
def sumLL (g : List Int) (m n : Nat) (L : List (List Int)) : List (List Int) := (cdF m n L).map (dcL g n)
theorem sums_ll {g : List Int} {m n : Nat} {L : List (List Int)} (hg : IsG g m n) (hv : rlV m n L = true) {ss : List (Int × Int)} (h : SumL m n (rlE m L) ss) : (srt2 ss).map (dec m) = sumLL g m n L := by
  rw [srt_cd hg.1 hv h, List.map_map]
  unfold sumLL
  refine List.map_congr_left fun c hc => ?_
  exact dec_dcL hg (List.mem_range.1 (List.mem_filter.1 hc).1)
theorem RowsN.at {B : Nat} {w : World} {G : Nat} {L : List (List Int)} (h : RowsN B w G L) : RowsAt w (some ⟨G, 0, none⟩) L := fun hp => by
  obtain ⟨cs, h1, h2, h3⟩ := h
  refine ⟨G, 0, rfl, h2.lt, fun i hi => ?_⟩
  obtain ⟨b, c, k1, k2, k3⟩ := h3 i hi
  have e : getl L i = L[i] := by unfold getl; rw [List.getD_eq_getElem?_getD, List.getElem?_eq_getElem hi]; rfl
  rw [e]
  exact ⟨_, c, by rw [Nat.zero_add, h2.cell]; exact k2, k3.ints⟩
/-- Sums, said by lists. -/
def SumsQ (g : List Int) (m n : Nat) (L : List (List Int)) (w : World) (e : Ending) (w' : World) : Prop := ∃ G, e = .returned (.tuple #[.slice (some ⟨G, 0, none⟩) (sumLL g m n L).length (sumLL g m n L).length, .int .i64 0]) ∧ w.heap.size ≤ G ∧ RowsN w.heap.size w' G (sumLL g m n L) ∧ Below w.heap.size w w'
theorem Sums_any (A B : Option Addr) (c d m n : Nat) (g : List Int) (L : List (List Int)) (w : World) (hg : IsG g m n) (hl2 : ∀ i, i < L.length → (getl L i).length ≤ 1000000) (ha : IntsAt w A g) (hb : RowsAt w B L) (hv : rlV m n L = true) :
    Calls Try.prog 27 #[.slice A g.length c, .slice B L.length d] w (SumsQ g m n L w) :=
  (Sums_yes A B c d m n g L w hg hl2 ha hb hv).mono fun e w' ⟨ss, G, h1, h2, h3, h4, h5⟩ => by
    have e := sums_ll hg hv h1
    have e2 : (srt2 ss).length = (sumLL g m n L).length := by rw [← e, List.length_map]
    rw [e2] at h2
    rw [e] at h4
    exact ⟨G, h2, h3, h4, h5⟩
end Go.Proofs.Ytokjdadgdfmffaa
/- What SumsTold needs. -/
namespace Go.Proofs.Ytokjdadgdfmffaa
open Go.RowKit Ols
set_option maxRecDepth 100000
theorem tot_eq {g : List Int} {m n : Nat} {L : List (List Int)} (hg : IsG g m n) (hv : rlV m n L = true) {c : Nat} (hc : c < m * n) {Z : List Nat} (hZr : ∀ x ∈ Z, x < L.length)
    (h1 : sF (fun x => ((rlE m L).getD x (0, 0)).1) Z % m = ((c / n : Nat) : Int)) (h2 : sF (fun x => ((rlE m L).getD x (0, 0)).2) Z % n = ((c % n : Nat) : Int)) : fL g.length (tF g L Z) = dcL g n c := by
  have hzv := (of_decide_eq_true hv : L.length ≤ 60 ∧ ∀ i, i < L.length → elV m n (getl L i) = true)
  obtain ⟨_, ⟨rfl, hm⟩ | ⟨rfl, hm⟩, _⟩ := hg
  · have e : tF [(n : Int)] L Z 0 = (c : Int) := by
      unfold tF
      rw [sF_congr Z (h := fun x => ((rlE m L).getD x (0, 0)).2) fun x hx => ?_]
      · show _ % (n : Int) = _
        rw [h2, Nat.mod_eq_of_lt (by subst hm; omega)]
      · rw [rl_getD m (hZr x hx)]
        have hvx := hzv.2 x (hZr x hx)
        generalize getl L x = r at *
        match r, hvx with
        | [y], _ => simp [elB, hm]; rfl
        | [x, y], h3 =>
          have h3' : m ≠ 1 ∧ (0 ≤ x ∧ x < m) ∧ 0 ≤ y ∧ y < n := of_decide_eq_true h3
          exact absurd hm h3'.1
    show [tF [(n : Int)] L Z 0] = [(c : Int)]
    rw [e]
  · have hm1 : ¬ m = 1 := by omega
    have e1 : tF [(m : Int), (n : Int)] L Z 0 = ((c / n : Nat) : Int) := by
      unfold tF
      rw [sF_congr Z (h := fun x => ((rlE m L).getD x (0, 0)).1) fun x hx => ?_]
      · exact h1
      · rw [rl_getD m (hZr x hx)]
        have hvx := hzv.2 x (hZr x hx)
        generalize getl L x = r at *
        match r, hvx with
        | [y], h3 =>
          have h3' : m = 1 ∧ 0 ≤ y ∧ y < n := of_decide_eq_true h3
          exact absurd h3'.1 hm1
        | [x, y], _ => simp [elA, hm1]; rfl
    have e2 : tF [(m : Int), (n : Int)] L Z 1 = ((c % n : Nat) : Int) := by
      unfold tF
      rw [sF_congr Z (h := fun x => ((rlE m L).getD x (0, 0)).2) fun x hx => ?_]
      · exact h2
      · rw [rl_getD m (hZr x hx)]
        have hvx := hzv.2 x (hZr x hx)
        generalize getl L x = r at *
        match r, hvx with
        | [y], h3 =>
          have h3' : m = 1 ∧ 0 ≤ y ∧ y < n := of_decide_eq_true h3
          exact absurd h3'.1 hm1
        | [x, y], _ => simp [elB, hm1]; rfl
    show [tF [(m : Int), (n : Int)] L Z 0, tF [(m : Int), (n : Int)] L Z 1] = [((c / n : Nat) : Int), ((c % n : Nat) : Int)]
    rw [e1, e2]
theorem told_some {g : List Int} {m n : Nat} {L : List (List Int)} (hg : IsG g m n) (hv : rlV m n L = true) {c : Nat} (hc : c < m * n) (hz : zrL m n L ((c / n : Nat) : Int) ((c % n : Nat) : Int) ≠ []) :
    ∃ Z : List Nat, zrL m n L ((c / n : Nat) : Int) ((c % n : Nat) : Int) = Z.map (fun x : Nat => (x : Int)) ∧ 1 ≤ Z.length ∧ Z.length ≤ 60 ∧ Z.Pairwise (· < ·) ∧ (∀ x ∈ Z, x < L.length) ∧ fL g.length (tF g L Z) = dcL g n c := by
  have hE := el_code hg.1.2.2.1 hc
  have hz0 : 0 < (shF m n 0 (rlE m L) ((c / n : Nat) : Int) ((c % n : Nat) : Int)).length := List.length_pos_iff.2 hz
  have hs2 := sh_sound hg.1 (rlE m L) 0 _ _ hz0
  rw [range_es (rlE m L)] at hs2
  obtain ⟨Z, z1, z2, z3, z4⟩ := isP_pos _ _ _ _ _ _ hs2
  rw [← range_es] at z2
  rw [rl_len] at z1
  have hZr : ∀ x ∈ Z, x < L.length := fun x hx => by
    have := z1.subset hx
    rw [List.mem_range'_1] at this
    omega
  have hZl : (shF m n 0 (rlE m L) ((c / n : Nat) : Int) ((c % n : Nat) : Int)).length = Z.length := by rw [z2, List.length_map]
  rw [hZl] at hz0
  have hzv := (of_decide_eq_true hv : L.length ≤ 60 ∧ ∀ i, i < L.length → elV m n (getl L i) = true)
  have hlen60 : Z.length ≤ L.length := by have := z1.length_le; rwa [List.length_range'] at this
  have hd : ∀ {p : Nat} {a S : Int}, 0 ≤ a → a < p → (p : Int) ∣ a - S → S % p = a := fun {p a S} h0 h1 h => by
    have h2 := Int.emod_emod_of_dvd
    have h3 : (a - S) % p = 0 := Int.emod_eq_zero_of_dvd h
    rw [← Int.emod_eq_of_lt h0 h1]
    exact (Int.emod_eq_emod_iff_emod_sub_eq_zero.2 h3).symm
  exact ⟨Z, z2, hz0, by omega, List.Pairwise.sublist z1 (by rw [← List.range_eq_range']; exact List.pairwise_lt_range), hZr, tot_eq hg hv hc hZr (hd hE.1 hE.2.1 z3) (hd hE.2.2.1 hE.2.2.2 z4)⟩
theorem tot_nil {g : List Int} {m n : Nat} {L : List (List Int)} (hg : IsG g m n) (hv : rlV m n L = true) (h0 : 0 < m * n) : fL g.length (tF g L []) = dcL g n 0 :=
  tot_eq hg hv h0 (by simp) (by show (0 : Int) % m = _; simp) (by show (0 : Int) % n = _; simp)
theorem elAB_dcL {g : List Int} {m n c : Nat} (hg : IsG g m n) (hc : c < m * n) : elV m n (dcL g n c) = true ∧ elA m (dcL g n c) = ((c / n : Nat) : Int) ∧ elB m (dcL g n c) = ((c % n : Nat) : Int) := by
  have hE := el_code hg.1.2.2.1 hc
  unfold dcL
  obtain ⟨_, ⟨rfl, h1⟩ | ⟨rfl, h1⟩, _⟩ := hg
  · subst h1
    rw [if_pos (show [(n : Int)].length = 1 from rfl)]
    have e1 : c / n = 0 := Nat.div_eq_of_lt (by omega)
    have e2 : c % n = c := Nat.mod_eq_of_lt (by omega)
    rw [e2] at hE
    refine ⟨decide_eq_true ⟨rfl, hE.2.2.1, hE.2.2.2⟩, ?_, ?_⟩
    · rw [e1]; rfl
    · rw [e2]; simp [elB]
  · rw [if_neg (by simp)]
    have hm : ¬ m = 1 := by omega
    exact ⟨decide_eq_true ⟨hm, ⟨hE.1, hE.2.1⟩, hE.2.2.1, hE.2.2.2⟩, by simp [elA, hm], by simp [elB, hm]⟩
/-- So many sums have a smaller number. -/
def cdK (m n : Nat) (L : List (List Int)) (c : Nat) : Nat := ((List.range c).filter fun c => decide (zrL m n L ((c / n : Nat) : Int) ((c % n : Nat) : Int) ≠ [])).length
theorem cdK_no {m n : Nat} {L : List (List Int)} {c : Nat} (h : zrL m n L ((c / n : Nat) : Int) ((c % n : Nat) : Int) = []) : cdK m n L (c + 1) = cdK m n L c := by
  unfold cdK
  rw [List.range_succ, List.filter_append, List.length_append, List.filter_cons, if_neg (by rw [decide_eq_true_eq]; exact fun hh => hh h)]
  rfl
theorem cdK_yes {m n : Nat} {L : List (List Int)} {c : Nat} (h : zrL m n L ((c / n : Nat) : Int) ((c % n : Nat) : Int) ≠ []) : cdK m n L (c + 1) = cdK m n L c + 1 := by
  unfold cdK
  rw [List.range_succ, List.filter_append, List.length_append, List.filter_cons, if_pos (decide_eq_true h)]
  rfl
theorem cdK_end (g : List Int) (m n : Nat) (L : List (List Int)) : (sumLL g m n L).length = cdK m n L (m * n) := by
  unfold sumLL cdF cdK
  rw [List.length_map]
theorem cdK_at {g : List Int} {m n : Nat} {L : List (List Int)} {c : Nat} (hc : c < m * n) (h : zrL m n L ((c / n : Nat) : Int) ((c % n : Nat) : Int) ≠ []) : cdK m n L c < (sumLL g m n L).length ∧ getl (sumLL g m n L) (cdK m n L c) = dcL g n c := by
  have e : List.range (m * n) = List.range c ++ (c :: List.range' (c + 1) (m * n - c - 1)) := by
    rw [List.range_eq_range', List.range_eq_range', show m * n = c + (1 + (m * n - c - 1)) by omega, ← List.range'_append_1, Nat.zero_add]
    congr 1
    rw [show c + (1 + (m * n - c - 1)) - c - 1 = m * n - c - 1 by omega, Nat.add_comm 1, List.range'_succ]
  have e2 : sumLL g m n L = ((List.range c).filter fun c => decide (zrL m n L ((c / n : Nat) : Int) ((c % n : Nat) : Int) ≠ [])).map (dcL g n) ++ (dcL g n c :: ((List.range' (c + 1) (m * n - c - 1)).filter fun c => decide (zrL m n L ((c / n : Nat) : Int) ((c % n : Nat) : Int) ≠ [])).map (dcL g n)) := by
    unfold sumLL cdF
    rw [e, List.filter_append, List.filter_cons, if_pos (decide_eq_true h), List.map_append, List.map_cons]
  have hl : cdK m n L c = (((List.range c).filter fun c => decide (zrL m n L ((c / n : Nat) : Int) ((c % n : Nat) : Int) ≠ [])).map (dcL g n)).length := by rw [List.length_map]; rfl
  rw [e2, hl]
  refine ⟨by rw [List.length_append, List.length_cons]; omega, ?_⟩
  unfold getl
  rw [List.getD_eq_getElem?_getD, List.getElem?_append_right (Nat.le_refl _), Nat.sub_self]; rfl
end Go.Proofs.Ytokjdadgdfmffaa
