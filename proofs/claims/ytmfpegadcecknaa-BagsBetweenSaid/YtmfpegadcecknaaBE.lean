/- Sets as lists; edges inside a set. -/
import Derived.Test.YtmfpegadcecknaaAV
import Derived.Test.YtmfpegadcecknaaAZ
namespace Go.Proofs.Ytmfpegadcecknaa
open Go.RowKit
set_option maxHeartbeats 1000000
set_option maxRecDepth 100000
theorem msk_has {n : Nat} (hn : n ≤ 16) {xs : List Int} : ∀ k, asc n xs k → ∀ v : Nat, sHas (mskTo xs k) v = true ↔ ∃ i, i < k ∧ geti xs i = (v : Int)
  | 0, _, v => by unfold mskTo; simp [sHas]
  | k + 1, h, v => by
    obtain ⟨h1, h2, _⟩ := h k (by omega)
    rw [mskTo, with_has, Bool.or_eq_true, msk_has hn k (fun i hi => h i (by omega)) v, decide_eq_true_eq]
    constructor
    · rintro (⟨i, hi, e⟩ | e)
      · exact ⟨i, by omega, e⟩
      · exact ⟨k, by omega, by omega⟩
    · rintro ⟨i, hi, e⟩
      by_cases e2 : i = k
      · subst e2; exact .inr (by omega)
      · exact .inl ⟨i, by omega, e⟩
theorem asc_lt {n : Nat} {xs : List Int} {k : Nat} (h : asc n xs k) : ∀ j, j < k → ∀ i, i < j → geti xs i < geti xs j
  | 0, _, i, hi => absurd hi (by omega)
  | j + 1, hj, i, hi => by
    have h1 := (h (j + 1) hj).2.2 (by omega)
    rw [Nat.add_sub_cancel] at h1
    by_cases e : i = j
    · subst e; exact h1
    · have := asc_lt h j (by omega) i (by omega); omega
theorem msk_pc {n : Nat} (hn : n ≤ 16) {xs : List Int} : ∀ k, asc n xs k → pc 16 (mskTo xs k) = k
  | 0, _ => by unfold mskTo; decide
  | k + 1, h => by
    obtain ⟨h1, h2, _⟩ := h k (by omega)
    have hk : asc n xs k := fun i hi => h i (by omega)
    rw [mskTo, pc_with (msk_lt hn k hk) (by omega), msk_pc hn k hk]
    cases e : sHas (mskTo xs k) (geti xs k).toNat
    · rfl
    · obtain ⟨i, hi, e2⟩ := (msk_has hn k hk _).1 e
      have := asc_lt h k (by omega) i hi
      omega
/-- A list that is a set. -/
def IsSet (m : Nat) (xs : List Int) : Prop := asc m xs xs.length ∧ 0 < xs.length
theorem setV_yes {m : Nat} (hm : m ≤ 16) {xs : List Int} (h : IsSet m xs) : setV m xs < 65536 ∧ setV m xs ≠ 0 ∧ pc 16 (setV m xs) = xs.length ∧ (∀ v, sHas (setV m xs) v = true → v < m) ∧ ∀ v : Nat, (v : Int) ∈ xs ↔ sHas (setV m xs) v = true := by
  have e : setV m xs = mskTo xs xs.length := by unfold setV; rw [if_pos h.1]
  rw [e]
  have hp := msk_pc hm xs.length h.1
  have hh := msk_has hm xs.length h.1
  refine ⟨msk_lt hm _ h.1, fun e0 => ?_, hp, fun v hv => ?_, fun v => ?_⟩
  · rw [e0] at hp
    have : pc 16 0 = 0 := by decide
    have := h.2; omega
  · obtain ⟨i, hi, e2⟩ := (hh v).1 hv
    have := h.1 i hi; omega
  · rw [hh v]
    constructor
    · intro hv
      obtain ⟨i, hi, e2⟩ := List.getElem_of_mem hv
      exact ⟨i, hi, by rw [geti_eq hi, e2]⟩
    · rintro ⟨i, hi, e2⟩
      rw [← e2, geti_eq hi]; exact List.getElem_mem hi
theorem setV_no {m : Nat} {xs : List Int} (h : ¬ IsSet m xs) : setV m xs = 0 := by
  unfold setV
  split
  · rename_i h1
    have : xs.length = 0 := by
      rcases Nat.eq_zero_or_pos xs.length with h0 | h0
      · exact h0
      · exact absurd ⟨h1, h0⟩ h
    rw [this]; rfl
  · rfl
theorem sumN_one (a : Nat) (x : Int) : ∀ n, sumN n (fun v => if v = a then x else 0) = if a < n then x else 0
  | 0 => by simp [sumN]
  | n + 1 => by
    rw [sumN_s, sumN_one a x n]
    by_cases e : n = a
    · subst e; simp
    · rw [if_neg e]; split <;> split <;> omega
/-- How many edges have both ends in the list. -/
def insT (es : List (Int × Int)) (xs : List Int) : Nat → Nat
  | 0 => 0
  | k + 1 => insT es xs k + if pA es k ∈ xs ∧ pB es k ∈ xs then 1 else 0
theorem insT_le (es : List (Int × Int)) (xs : List Int) : ∀ k, insT es xs k ≤ k
  | 0 => Nat.le_refl _
  | k + 1 => by rw [insT]; have := insT_le es xs k; split <;> omega
theorem ends_add {g : List Nat} (hr : Rows16 g) {a b : Nat} (ha : a < 16) (hb : b < 16) (hab : a ≠ b) (hn : sHas (near g a) b = false) (hn2 : sHas (near g b) a = false) (S : Nat) :
    endsOf (addE g a b) S (ms S) = endsOf g S (ms S) + 2 * if sHas S a = true ∧ sHas S b = true then 1 else 0 := by
  have h1 : (endsOf (addE g a b) S (ms S) : Int) = sumN 16 (fun v => if sHas S v = true then (nb (addE g a b) S v : Int) else 0) := sum_ms S _
  have h2 : (endsOf g S (ms S) : Int) = sumN 16 (fun v => if sHas S v = true then (nb g S v : Int) else 0) := sum_ms S _
  have h3 : sumN 16 (fun v => if sHas S v = true then (nb (addE g a b) S v : Int) else 0) = sumN 16 (fun v => (if sHas S v = true then (nb g S v : Int) else 0) + ((if v = a then (if sHas S a = true ∧ sHas S b = true then 1 else 0) else 0) + (if v = b then (if sHas S a = true ∧ sHas S b = true then 1 else 0) else 0))) := by
    refine sumN_congr 16 fun v hv => ?_
    rw [nb_add hr ha hb hab hn hn2]
    by_cases e1 : v = a
    · subst e1
      rw [if_pos rfl, if_neg hab]
      by_cases hs : sHas S v = true <;> by_cases hs2 : sHas S b = true <;> simp [hs, hs2, Ne.symm hab]
    · rw [if_neg e1]
      by_cases e2 : v = b
      · subst e2
        rw [if_pos rfl]
        by_cases hs : sHas S v = true <;> by_cases hs2 : sHas S a = true <;> simp [hs, hs2, hab]
      · rw [if_neg e2]
        by_cases hs : sHas S v = true <;> simp [hs, Ne.symm e1, Ne.symm e2]
  rw [sumN_add, sumN_add, sumN_one, sumN_one, if_pos ha, if_pos hb] at h3
  rw [h3, ← h2] at h1
  split at h1 <;> split <;> first | omega | contradiction
structure InsI (m : Nat) (es : List (Int × Int)) (gs : List Nat) (S : Nat) (xs : List Int) (k : Nat) (g : List Nat) : Prop where
  pre : PreI m es gs k g
  sym : ∀ x y, sHas (near g x) y = sHas (near g y) x
  cnt : endsOf g S (ms S) = 2 * insT es xs k
theorem ends_zero (S : Nat) : ∀ xs, endsOf Z16 S xs = 0
  | [] => rfl
  | x :: xs => by
    have h := ends_zero S xs
    unfold endsOf at *
    rw [List.map_cons, List.sum_cons, h]
    exact nb_zero S x
theorem ins_at {m : Nat} {es : List (Int × Int)} {gs : List Nat} (h : readF m es = some gs) {S : Nat} {xs : List Int} (hS : ∀ v : Nat, (v : Int) ∈ xs ↔ sHas S v = true) : ∀ k, k ≤ es.length → ∃ g, InsI m es gs S xs k g := by
  have hm : m ≤ 16 := by have := readF_ok h; omega
  intro k
  induction k with
  | zero => exact fun _ => ⟨Z16, PreI.start h, fun x y => by unfold near sHas; rw [List.getElem?_replicate, List.getElem?_replicate]; split <;> split <;> simp, ends_zero S _⟩
  | succ k ih =>
    intro hk
    obtain ⟨g, hg⟩ := ih (by omega)
    obtain ⟨a, b, h1, h2, h3, h4, h5, h6⟩ := hg.pre.edge (by omega) hm
    refine ⟨addE g a b, h6, fun x y => ?_, ?_⟩
    · rw [Bool.eq_iff_iff, add_has hg.pre.rows (by omega) (by omega) (by omega), add_has hg.pre.rows (by omega) (by omega) (by omega), hg.sym]
      constructor
      · rintro (h | ⟨h, h'⟩ | ⟨h, h'⟩)
        · exact .inl h
        · exact .inr (.inr ⟨h', h⟩)
        · exact .inr (.inl ⟨h', h⟩)
      · rintro (h | ⟨h, h'⟩ | ⟨h, h'⟩)
        · exact .inl h
        · exact .inr (.inr ⟨h', h⟩)
        · exact .inr (.inl ⟨h', h⟩)
    · rw [ends_add hg.pre.rows (by omega) (by omega) (by omega) h5 (by rw [← hg.sym]; exact h5), hg.cnt, insT, h1, h2, Nat.mul_add]
      simp only [hS]
theorem ends_ins {m : Nat} {es : List (Int × Int)} {gs : List Nat} (h : readF m es = some gs) {S : Nat} {xs : List Int} (hS : ∀ v : Nat, (v : Int) ∈ xs ↔ sHas S v = true) : endsOf gs S (ms S) / 2 = insT es xs es.length := by
  obtain ⟨g, hg⟩ := ins_at h hS es.length (Nat.le_refl _)
  have h1 := hg.cnt
  rw [hg.pre.done] at h1
  omega
theorem has_yes {A : Option Addr} {c : Nat} {xs : List Int} {v : Int} {w : World} (hx : xs.length ≤ 1000000) (ha : IntsAt w A xs) (h : v ∈ xs) : Calls Try.prog 52 #[.slice A xs.length c, .int .i64 v] w fun e w' => e = .returned (.bool true) ∧ w = w' :=
  (has_list A c xs v w hx ha).mono fun _ _ ⟨h1, h2⟩ => ⟨by rw [h1]; exact ret_bool (decide_eq_true h), h2⟩
theorem has_no {A : Option Addr} {c : Nat} {xs : List Int} {v : Int} {w : World} (hx : xs.length ≤ 1000000) (ha : IntsAt w A xs) (h : ¬ v ∈ xs) : Calls Try.prog 52 #[.slice A xs.length c, .int .i64 v] w fun e w' => e = .returned (.bool false) ∧ w = w' :=
  (has_list A c xs v w hx ha).mono fun _ _ ⟨h1, h2⟩ => ⟨by rw [h1]; exact ret_bool (decide_eq_false h), h2⟩
theorem Inside_any (A B : Option Addr) (c d : Nat) (es : List (Int × Int)) (xs : List Int) (w : World) (hx : es.length ≤ 1000000) (hx2 : xs.length ≤ 1000000) (ha : PairsAt w A es) (hb : IntsAt w B xs) :
    Calls Try.prog 30 #[.slice A es.length c, .slice B xs.length d] w fun e w' => e = .returned (.int .i64 (insT es xs es.length)) ∧ w = w' := by
  go_enter Try.func30, Try.ntmps30
  go_wp2
  go_loop [5, 6] (fun n i => ∃ k : Nat, k ≤ es.length ∧ i = .int .i64 k ∧ n = .int .i64 (insT es xs k)) (fun _ i => es.length - (intOf i).toNat)
  case atStart => exact ⟨0, by omega, rfl, rfl⟩
  case round =>
    obtain ⟨k, hk, rfl, rfl⟩ := hrel
    by_cases hlt : k < es.length
    · obtain ⟨b, o, rfl, hb1, hc⟩ := ha (by omega)
      obtain ⟨c0, c1⟩ := hc k hlt
      have hle := insT_le es xs k
      have HI := Lib.hid (show insT es xs (k + 1) = insT es xs k + if pA es k ∈ xs ∧ pB es k ∈ xs then 1 else 0 from rfl)
      have HY := Lib.hid (fun v (hv : v ∈ xs) W (hW : IntsAt W B xs) => has_yes (c := d) hx2 hW hv)
      have HN := Lib.hid (fun v (hv : ¬ v ∈ xs) W (hW : IntsAt W B xs) => has_no (c := d) hx2 hW hv)
      clear hc
      generalize pA es k = x at *
      generalize pB es k = y at *
      by_cases m1 : x ∈ xs
      · by_cases m2 : y ∈ xs
        · have M1 := Lib.hid m1
          have M2 := Lib.hid m2
          clear m1 m2
          have tok : True := trivial
          go_wp2_with (first
            | (go_at_call 52; have _t := tok; refine (HY.out x M1.out _ hb).mono ?_; rintro e w' ⟨rfl, rfl⟩; clear tok)
            | (go_at_call 52; refine (HY.out y M2.out _ hb).mono ?_; rintro e w' ⟨rfl, rfl⟩))
          go_round
          case rel => exact ⟨k + 1, by omega, by go_num, by rw [HI.out, if_pos ⟨M1.out, M2.out⟩]; go_num⟩
          case measure => simp [intOf]; omega
        · have M1 := Lib.hid m1
          have M2 := Lib.hid m2
          clear m1 m2
          have tok : True := trivial
          go_wp2_with (first
            | (go_at_call 52; have _t := tok; refine (HY.out x M1.out _ hb).mono ?_; rintro e w' ⟨rfl, rfl⟩; clear tok)
            | (go_at_call 52; refine (HN.out y M2.out _ hb).mono ?_; rintro e w' ⟨rfl, rfl⟩))
          go_round
          case rel => exact ⟨k + 1, by omega, by go_num, by rw [HI.out, if_neg (fun h => M2.out h.2)]; rfl⟩
          case measure => simp [intOf]; omega
      · have M1 := Lib.hid m1
        clear m1
        go_wp2_with (go_at_call 52; refine (HN.out x M1.out _ hb).mono ?_; rintro e w' ⟨rfl, rfl⟩)
        go_round
        case rel => exact ⟨k + 1, by omega, by go_num, by rw [HI.out, if_neg (fun h => M1.out h.1)]; rfl⟩
        case measure => simp [intOf]; omega
    · obtain rfl : k = es.length := by omega
      go_wp2
      go_ret
      exact ⟨rfl, rfl⟩
theorem RefDensity_any (A B : Option Addr) (c d : Nat) (es : List (Int × Int)) (xs : List Int) (w : World) (hx : es.length ≤ 1000000) (hx2 : xs.length ≤ 1000000) (hx0 : 0 < xs.length) (ha : PairsAt w A es) (hb : IntsAt w B xs) :
    Calls Try.prog 20 #[.slice A es.length c, .slice B xs.length d] w fun e w' => e = .returned (frac (fN (insT es xs es.length) xs.length) (fD (insT es xs es.length) xs.length)) ∧ Below w.heap.size w w' := by
  have hbw := (Below.refl _ w).alloc (Nat.le_refl _) (.cells #[.int .i64 0, .int .i64 0] 26)
  have hle := insT_le es xs es.length
  have HI := Lib.hid (Inside_any A B c d es xs (w.alloc (.cells #[.int .i64 0, .int .i64 0] 26)) hx hx2 (ha.below hbw) (hb.below hbw))
  have HR := Lib.hid (fun w => Reduced_any (insT es xs es.length) xs.length w (by omega) (by omega) hx0)
  clear ha hb hbw
  generalize fN (insT es xs es.length) xs.length = N at *
  generalize fD (insT es xs es.length) xs.length = D at *
  go_enter Try.func20, Try.ntmps20
  go_wp2_with (first
    | (go_at_call 30; refine HI.out.mono ?_; rintro e w' ⟨rfl, rfl⟩; have r0 := Row.new w 26 [.int .i64 0, .int .i64 0])
    | (go_at_call 48; refine (HR.out _).mono ?_; rintro e w2 ⟨rfl, hb2⟩; have r2 := r0.below hb2; obtain ⟨⟨c0, c1⟩, g0, g1⟩ := r2.cells2))
  have r5 := (r2.set 0 (.int .i64 N)).set 1 (.int .i64 D)
  obtain ⟨⟨d0, d1⟩, -⟩ := r5.cells2
  refine bodyPost_ret (v := .agg #[.int .i64 N, .int .i64 D]) ?_ rfl ⟨rfl, ?_⟩
  · simp [results, Try.results20, go_sem, d0, d1]
  · have hb := ((Below.refl _ w).alloc (Nat.le_refl _) (.cells #[.int .i64 0, .int .i64 0] 26)).trans (hb2.mono (by simp))
    (repeat (first | exact Below.refl _ _ | assumption | (refine Below.setCell ?_ (by first | exact Nat.le_refl _ | omega | (simp; done) | (simp; omega)) _) | (refine Below.trans ?_ (below_drewN _)) | (refine Below.drew ?_) | (refine Below.alloc ?_ (by first | exact Nat.le_refl _ | omega | (simp; done) | (simp; omega)) _) | (refine below_row ?_ (by first | exact Nat.le_refl _ | omega | (simp; done) | (simp; omega)) _)))
end Go.Proofs.Ytmfpegadcecknaa
