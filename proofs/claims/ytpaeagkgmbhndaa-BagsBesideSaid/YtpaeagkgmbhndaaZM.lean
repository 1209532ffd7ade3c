/- Parts BE BF of the proof, in this order. -/
import Derived.Test.YtpaeagkgmbhndaaZK
import Derived.Test.YtpaeagkgmbhndaaZL
import Derived.Test.YtpaeagkgmbhndaaZF
/- Sets as lists; edges inside a set. -/
namespace Go.Proofs.Ytpaeagkgmbhndaa
open Go.RowKit
set_option maxHeartbeats 1000000
set_option maxRecDepth 100000
theorem msk_has {n : Nat} (hn : n ≤ 16) {xs : List Int} : ∀ k, asc n xs k → ∀ v : Nat, sHas (mskTo xs k) v = true ↔ ∃ i, i < k ∧ geti xs i = (v : Int)
  | 0, _, v => by unfold mskTo; simp [sHas]
  | k + 1, h, v => by
    obtain ⟨h1, h2, _⟩ := h k (by omega)
    rw [mskTo, with_has, Bool.or_eq_true, msk_has hn k (fun i hi => h i (by omega)) v, decide_eq_true_eq]
    constructor
    · rintro (⟨i, hi, e⟩ | e)
      · exact ⟨i, by omega, e⟩
      · exact ⟨k, by omega, by omega⟩
    · rintro ⟨i, hi, e⟩
      by_cases e2 : i = k
      · subst e2; exact .inr (by omega)
      · exact .inl ⟨i, by omega, e⟩
theorem asc_lt {n : Nat} {xs : List Int} {k : Nat} (h : asc n xs k) : ∀ j, j < k → ∀ i, i < j → geti xs i < geti xs j
  | 0, _, i, hi => absurd hi (by omega)
  | j + 1, hj, i, hi => by
    have h1 := (h (j + 1) hj).2.2 (by omega)
    rw [Nat.add_sub_cancel] at h1
    by_cases e : i = j
    · subst e; exact h1
    · have := asc_lt h j (by omega) i (by omega); omega
theorem msk_pc {n : Nat} (hn : n ≤ 16) {xs : List Int} : ∀ k, asc n xs k → pc 16 (mskTo xs k) = k
  | 0, _ => by unfold mskTo; decide
  | k + 1, h => by
    obtain ⟨h1, h2, _⟩ := h k (by omega)
    have hk : asc n xs k := fun i hi => h i (by omega)
    rw [mskTo, pc_with (msk_lt hn k hk) (by omega), msk_pc hn k hk]
    cases e : sHas (mskTo xs k) (geti xs k).toNat
    · rfl
    · obtain ⟨i, hi, e2⟩ := (msk_has hn k hk _).1 e
      have := asc_lt h k (by omega) i hi
      omega
/-- A list that is a set. -/
def IsSet (m : Nat) (xs : List Int) : Prop := asc m xs xs.length ∧ 0 < xs.length
theorem setV_yes {m : Nat} (hm : m ≤ 16) {xs : List Int} (h : IsSet m xs) : setV m xs < 65536 ∧ setV m xs ≠ 0 ∧ pc 16 (setV m xs) = xs.length ∧ (∀ v, sHas (setV m xs) v = true → v < m) ∧ ∀ v : Nat, (v : Int) ∈ xs ↔ sHas (setV m xs) v = true := by
  have e : setV m xs = mskTo xs xs.length := by unfold setV; rw [if_pos h.1]
  rw [e]
  have hp := msk_pc hm xs.length h.1
  have hh := msk_has hm xs.length h.1
  refine ⟨msk_lt hm _ h.1, fun e0 => ?_, hp, fun v hv => ?_, fun v => ?_⟩
  · rw [e0] at hp
    have : pc 16 0 = 0 := by decide
    have := h.2; omega
  · obtain ⟨i, hi, e2⟩ := (hh v).1 hv
    have := h.1 i hi; omega
  · rw [hh v]
    constructor
    · intro hv
      obtain ⟨i, hi, e2⟩ := List.getElem_of_mem hv
      exact ⟨i, hi, by rw [geti_eq hi, e2]⟩
    · rintro ⟨i, hi, e2⟩
      rw [← e2, geti_eq hi]; exact List.getElem_mem hi
theorem setV_no {m : Nat} {xs : List Int} (h : ¬ IsSet m xs) : setV m xs = 0 := by
  unfold setV
  split
  · rename_i h1
    have : xs.length = 0 := by
      rcases Nat.eq_zero_or_pos xs.length with h0 | h0
      · exact h0
      · exact absurd ⟨h1, h0⟩ h
    rw [this]; rfl
  · rfl
theorem sumN_one (a : Nat) (x : Int) : ∀ n, sumN n (fun v => if v = a then x else 0) = if a < n then x else 0
  | 0 => by simp [sumN]
  | n + 1 => by
    rw [sumN_s, sumN_one a x n]
    by_cases e : n = a
    · subst e; simp
    · rw [if_neg e]; split <;> split <;> omega
/-- How many edges have both ends in the list. -/
def insT (es : List (Int × Int)) (xs : List Int) : Nat → Nat
  | 0 => 0
  | k + 1 => insT es xs k + if pA es k ∈ xs ∧ pB es k ∈ xs then 1 else 0
theorem insT_le (es : List (Int × Int)) (xs : List Int) : ∀ k, insT es xs k ≤ k
  | 0 => Nat.le_refl _
  | k + 1 => by rw [insT]; have := insT_le es xs k; split <;> omega
theorem ends_add {g : List Nat} (hr : Rows16 g) {a b : Nat} (ha : a < 16) (hb : b < 16) (hab : a ≠ b) (hn : sHas (near g a) b = false) (hn2 : sHas (near g b) a = false) (S : Nat) :
    endsOf (addE g a b) S (ms S) = endsOf g S (ms S) + 2 * if sHas S a = true ∧ sHas S b = true then 1 else 0 := by
  have h1 : (endsOf (addE g a b) S (ms S) : Int) = sumN 16 (fun v => if sHas S v = true then (nb (addE g a b) S v : Int) else 0) := sum_ms S _
  have h2 : (endsOf g S (ms S) : Int) = sumN 16 (fun v => if sHas S v = true then (nb g S v : Int) else 0) := sum_ms S _
  have h3 : sumN 16 (fun v => if sHas S v = true then (nb (addE g a b) S v : Int) else 0) = sumN 16 (fun v => (if sHas S v = true then (nb g S v : Int) else 0) + ((if v = a then (if sHas S a = true ∧ sHas S b = true then 1 else 0) else 0) + (if v = b then (if sHas S a = true ∧ sHas S b = true then 1 else 0) else 0))) := by
    refine sumN_congr 16 fun v hv => ?_
    rw [nb_add hr ha hb hab hn hn2]
    by_cases e1 : v = a
    · subst e1
      rw [if_pos rfl, if_neg hab]
      by_cases hs : sHas S v = true <;> by_cases hs2 : sHas S b = true <;> simp [hs, hs2, Ne.symm hab]
    · rw [if_neg e1]
      by_cases e2 : v = b
      · subst e2
        rw [if_pos rfl]
        by_cases hs : sHas S v = true <;> by_cases hs2 : sHas S a = true <;> simp [hs, hs2, hab]
      · rw [if_neg e2]
        by_cases hs : sHas S v = true <;> simp [hs, Ne.symm e1, Ne.symm e2]
  rw [sumN_add, sumN_add, sumN_one, sumN_one, if_pos ha, if_pos hb] at h3
  rw [h3, ← h2] at h1
  split at h1 <;> split <;> first | omega | contradiction
structure InsI (m : Nat) (es : List (Int × Int)) (gs : List Nat) (S : Nat) (xs : List Int) (k : Nat) (g : List Nat) : Prop where
  pre : PreI m es gs k g
  sym : ∀ x y, sHas (near g x) y = sHas (near g y) x
  cnt : endsOf g S (ms S) = 2 * insT es xs k
theorem ends_zero (S : Nat) : ∀ xs, endsOf Z16 S xs = 0
  | [] => rfl
  | x :: xs => by
    have h := ends_zero S xs
    unfold endsOf at *
    rw [List.map_cons, List.sum_cons, h]
    exact nb_zero S x
theorem ins_at {m : Nat} {es : List (Int × Int)} {gs : List Nat} (h : readF m es = some gs) {S : Nat} {xs : List Int} (hS : ∀ v : Nat, (v : Int) ∈ xs ↔ sHas S v = true) : ∀ k, k ≤ es.length → ∃ g, InsI m es gs S xs k g := by
  have hm : m ≤ 16 := by have := readF_ok h; omega
  intro k
  induction k with
  | zero => exact fun _ => ⟨Z16, PreI.start h, fun x y => by unfold near sHas; rw [List.getElem?_replicate, List.getElem?_replicate]; split <;> split <;> simp, ends_zero S _⟩
  | succ k ih =>
    intro hk
    obtain ⟨g, hg⟩ := ih (by omega)
    obtain ⟨a, b, h1, h2, h3, h4, h5, h6⟩ := hg.pre.edge (by omega) hm
    refine ⟨addE g a b, h6, fun x y => ?_, ?_⟩
    · rw [Bool.eq_iff_iff, add_has hg.pre.rows (by omega) (by omega) (by omega), add_has hg.pre.rows (by omega) (by omega) (by omega), hg.sym]
      constructor
      · rintro (h | ⟨h, h'⟩ | ⟨h, h'⟩)
        · exact .inl h
        · exact .inr (.inr ⟨h', h⟩)
        · exact .inr (.inl ⟨h', h⟩)
      · rintro (h | ⟨h, h'⟩ | ⟨h, h'⟩)
        · exact .inl h
        · exact .inr (.inr ⟨h', h⟩)
        · exact .inr (.inl ⟨h', h⟩)
    · rw [ends_add hg.pre.rows (by omega) (by omega) (by omega) h5 (by rw [← hg.sym]; exact h5), hg.cnt, insT, h1, h2, Nat.mul_add]
      simp only [hS]
theorem ends_ins {m : Nat} {es : List (Int × Int)} {gs : List Nat} (h : readF m es = some gs) {S : Nat} {xs : List Int} (hS : ∀ v : Nat, (v : Int) ∈ xs ↔ sHas S v = true) : endsOf gs S (ms S) / 2 = insT es xs es.length := by
  obtain ⟨g, hg⟩ := ins_at h hS es.length (Nat.le_refl _)
  have h1 := hg.cnt
  rw [hg.pre.done] at h1
  omega
theorem has_yes {A : Option Addr} {c : Nat} {xs : List Int} {v : Int} {w : World} (hx : xs.length ≤ 1000000) (ha : IntsAt w A xs) (h : v ∈ xs) : Calls Try.prog 52 #[.slice A xs.length c, .int .i64 v] w fun e w' => e = .returned (.bool true) ∧ w = w' :=
  (has_list A c xs v w hx ha).mono fun _ _ ⟨h1, h2⟩ => ⟨by rw [h1]; exact ret_bool (decide_eq_true h), h2⟩
theorem has_no {A : Option Addr} {c : Nat} {xs : List Int} {v : Int} {w : World} (hx : xs.length ≤ 1000000) (ha : IntsAt w A xs) (h : ¬ v ∈ xs) : Calls Try.prog 52 #[.slice A xs.length c, .int .i64 v] w fun e w' => e = .returned (.bool false) ∧ w = w' :=
  (has_list A c xs v w hx ha).mono fun _ _ ⟨h1, h2⟩ => ⟨by rw [h1]; exact ret_bool (decide_eq_false h), h2⟩
theorem Inside_any (A B : Option Addr) (c d : Nat) (es : List (Int × Int)) (xs : List Int) (w : World) (hx : es.length ≤ 1000000) (hx2 : xs.length ≤ 1000000) (ha : PairsAt w A es) (hb : IntsAt w B xs) :
    Calls Try.prog 30 #[.slice A es.length c, .slice B xs.length d] w fun e w' => e = .returned (.int .i64 (insT es xs es.length)) ∧ w = w' := by
  go_enter Try.func30, Try.ntmps30
  go_wp2
  go_loop [5, 6] (fun n i => ∃ k : Nat, k ≤ es.length ∧ i = .int .i64 k ∧ n = .int .i64 (insT es xs k)) (fun _ i => es.length - (intOf i).toNat)
  case atStart => exact ⟨0, by omega, rfl, rfl⟩
  case round =>
    obtain ⟨k, hk, rfl, rfl⟩ := hrel
    by_cases hlt : k < es.length
    · obtain ⟨b, o, rfl, hb1, hc⟩ := ha (by omega)
      obtain ⟨c0, c1⟩ := hc k hlt
      have hle := insT_le es xs k
      have HI := Lib.hid (show insT es xs (k + 1) = insT es xs k + if pA es k ∈ xs ∧ pB es k ∈ xs then 1 else 0 from rfl)
      have HY := Lib.hid (fun v (hv : v ∈ xs) W (hW : IntsAt W B xs) => has_yes (c := d) hx2 hW hv)
      have HN := Lib.hid (fun v (hv : ¬ v ∈ xs) W (hW : IntsAt W B xs) => has_no (c := d) hx2 hW hv)
      clear hc
      generalize pA es k = x at *
      generalize pB es k = y at *
      by_cases m1 : x ∈ xs
      · by_cases m2 : y ∈ xs
        · have M1 := Lib.hid m1
          have M2 := Lib.hid m2
          clear m1 m2
          have tok : True := trivial
          go_wp2_with (first
            | (go_at_call 52; have _t := tok; refine (HY.out x M1.out _ hb).mono ?_; rintro e w' ⟨rfl, rfl⟩; clear tok)
            | (go_at_call 52; refine (HY.out y M2.out _ hb).mono ?_; rintro e w' ⟨rfl, rfl⟩))
          go_round
          case rel => exact ⟨k + 1, by omega, by go_num, by rw [HI.out, if_pos ⟨M1.out, M2.out⟩]; go_num⟩
          case measure => simp [intOf]; omega
        · have M1 := Lib.hid m1
          have M2 := Lib.hid m2
          clear m1 m2
          have tok : True := trivial
          go_wp2_with (first
            | (go_at_call 52; have _t := tok; refine (HY.out x M1.out _ hb).mono ?_; rintro e w' ⟨rfl, rfl⟩; clear tok)
            | (go_at_call 52; refine (HN.out y M2.out _ hb).mono ?_; rintro e w' ⟨rfl, rfl⟩))
          go_round
          case rel => exact ⟨k + 1, by omega, by go_num, by rw [HI.out, if_neg (fun h => M2.out h.2)]; rfl⟩
          case measure => simp [intOf]; omega
      · have M1 := Lib.hid m1
        clear m1
        go_wp2_with (go_at_call 52; refine (HN.out x M1.out _ hb).mono ?_; rintro e w' ⟨rfl, rfl⟩)
        go_round
        case rel => exact ⟨k + 1, by omega, by go_num, by rw [HI.out, if_neg (fun h => M1.out h.1)]; rfl⟩
        case measure => simp [intOf]; omega
    · obtain rfl : k = es.length := by omega
      go_wp2
      go_ret
      exact ⟨rfl, rfl⟩
theorem RefDensity_any (A B : Option Addr) (c d : Nat) (es : List (Int × Int)) (xs : List Int) (w : World) (hx : es.length ≤ 1000000) (hx2 : xs.length ≤ 1000000) (hx0 : 0 < xs.length) (ha : PairsAt w A es) (hb : IntsAt w B xs) :
    Calls Try.prog 20 #[.slice A es.length c, .slice B xs.length d] w fun e w' => e = .returned (frac (fN (insT es xs es.length) xs.length) (fD (insT es xs es.length) xs.length)) ∧ Below w.heap.size w w' := by
  have hbw := (Below.refl _ w).alloc (Nat.le_refl _) (.cells #[.int .i64 0, .int .i64 0] 26)
  have hle := insT_le es xs es.length
  have HI := Lib.hid (Inside_any A B c d es xs (w.alloc (.cells #[.int .i64 0, .int .i64 0] 26)) hx hx2 (ha.below hbw) (hb.below hbw))
  have HR := Lib.hid (fun w => Reduced_any (insT es xs es.length) xs.length w (by omega) (by omega) hx0)
  clear ha hb hbw
  generalize fN (insT es xs es.length) xs.length = N at *
  generalize fD (insT es xs es.length) xs.length = D at *
  go_enter Try.func20, Try.ntmps20
  go_wp2_with (first
    | (go_at_call 30; refine HI.out.mono ?_; rintro e w' ⟨rfl, rfl⟩; have r0 := Row.new w 26 [.int .i64 0, .int .i64 0])
    | (go_at_call 48; refine (HR.out _).mono ?_; rintro e w2 ⟨rfl, hb2⟩; have r2 := r0.below hb2; obtain ⟨⟨c0, c1⟩, g0, g1⟩ := r2.cells2))
  have r5 := (r2.set 0 (.int .i64 N)).set 1 (.int .i64 D)
  obtain ⟨⟨d0, d1⟩, -⟩ := r5.cells2
  refine bodyPost_ret (v := .agg #[.int .i64 N, .int .i64 D]) ?_ rfl ⟨rfl, ?_⟩
  · simp [results, Try.results20, go_sem, d0, d1]
  · have hb := ((Below.refl _ w).alloc (Nat.le_refl _) (.cells #[.int .i64 0, .int .i64 0] 26)).trans (hb2.mono (by simp))
    (repeat (first | exact Below.refl _ _ | assumption | (refine Below.setCell ?_ (by first | exact Nat.le_refl _ | omega | (simp; done) | (simp; omega)) _) | (refine Below.trans ?_ (below_drewN _)) | (refine Below.drew ?_) | (refine Below.alloc ?_ (by first | exact Nat.le_refl _ | omega | (simp; done) | (simp; omega)) _) | (refine below_row ?_ (by first | exact Nat.le_refl _ | omega | (simp; done) | (simp; omega)) _)))
end Go.Proofs.Ytpaeagkgmbhndaa
/- The reference's own look at shares. -/
namespace Go.Proofs.Ytpaeagkgmbhndaa
open Go.RowKit
set_option maxHeartbeats 1000000
set_option maxRecDepth 100000
theorem ldT_far (es ss : List (Int × Int)) {m : Nat} : ∀ k, (∀ i, i < k → (pA es i).toNat < m ∧ (pB es i).toNat < m) → ∀ v, m ≤ v → getn (ldT es ss k) v = 0
  | 0, _, v, _ => getn_zer v
  | k + 1, h, v, hv => by
    obtain ⟨h1, h2⟩ := h k (by omega)
    have ih := ldT_far es ss k (fun i hi => h i (by omega)) v hv
    have hl := ldT_len es ss k
    rw [ldT]
    unfold ldS
    by_cases e1 : (pB es k).toNat < 16
    · rw [getn_set (by rw [List.length_set, hl]; exact e1), if_neg (by omega)]
      by_cases e2 : (pA es k).toNat < 16
      · rw [getn_set (by rw [hl]; exact e2), if_neg (by omega), ih]
      · rw [List.set_eq_of_length_le (by rw [hl]; omega), ih]
    · rw [List.set_eq_of_length_le (by rw [List.length_set, hl]; omega)]
      by_cases e2 : (pA es k).toNat < 16
      · rw [getn_set (by rw [hl]; exact e2), if_neg (by omega), ih]
      · rw [List.set_eq_of_length_le (by rw [hl]; omega), ih]
theorem RefProves_any (m : Nat) (A B : Option Addr) (c d p q : Nat) (es ss : List (Int × Int)) (gs : List Nat) (w : World) (hx : es.length ≤ 1000000) (ha : PairsAt w A es) (hb : PairsAt w B ss) (hq : q ≤ 1000) (h : readF m es = some gs) :
    Calls Try.prog 22 #[.int .i64 m, .slice A es.length c, .slice B ss.length d, frac p q] w fun e w' => e = .returned (.bool (provV es ss p q)) ∧ Below w.heap.size w w' := by
  obtain ⟨i0, hi, hz0, hz1, hz2⟩ := info_parts info3
  have hm : m ≤ 16 := by have := readF_ok h; omega
  have HE := Lib.hid (fun k (hk : k < es.length) => (by have := readF_edges h hk; exact ⟨(pA es k).toNat, (pB es k).toNat, by omega, by omega, by omega, by omega⟩ : ∃ a b : Nat, pA es k = a ∧ pB es k = b ∧ a < b ∧ b < m))
  clear h
  cases gl : ((ss.length : Int) != es.length)
  case true =>
    have hne : ¬ ss.length = es.length := by intro e; rw [e] at gl; simp at gl
    go_enter Try.func22, Try.ntmps22
    go_wp2
    go_ret
    refine ⟨ret_bool (by unfold provV; symm; apply decide_eq_false; exact fun h => hne h.1), ?_⟩
    (repeat (first | exact Below.refl _ _ | assumption | (refine Below.setCell ?_ (by first | exact Nat.le_refl _ | omega | (simp; done) | (simp; omega)) _) | (refine Below.trans ?_ (below_drewN _)) | (refine Below.drew ?_) | (refine Below.alloc ?_ (by first | exact Nat.le_refl _ | omega | (simp; done) | (simp; omega)) _) | (refine below_row ?_ (by first | exact Nat.le_refl _ | omega | (simp; done) | (simp; omega)) _)))
  case false =>
    have hel : ss.length = es.length := by simp at gl; omega
    have HL := Lib.hid hel
    clear hel
    go_enter Try.func22, Try.ntmps22
    go_wp2_with (at_make; refine wpList_make_full _ rfl _ _ 24 rfl (w.heap.size + 1) 3 i0 (.int .i64 0) 1 Try.underlying24 hi hz0 hz1 .i64 .i64 _ _ m rfl rfl rfl rfl (by rw [hz2]; omega) (by unfold maxLen; omega) (by simp) ?_; intro w4 o3 hg4; rw [World.size_alloc] at o3; have r4 := own_made o3; have r0 : Row w4 w.heap.size 26 [.int .i64 p, .int .i64 q] := (Row.new w 26 _).grown hg4 (by simp); have hb4 : Below w.heap.size w w4 := ((Below.refl _ _).alloc (Nat.le_refl _) _).grown hg4 (by simp) (by simp); clear o3 hg4)
    go_loopw [10] (fun i wr => ∃ (k : Nat) (cs : List Nat), k ≤ es.length ∧ i = .int .i64 k ∧ shOK ss q k ∧ (cs.length = m ∧ ∀ v, v < m → getn cs v = getn (ldT es ss k) v) ∧ Row wr (w.heap.size + 1) 3 (intv cs) ∧ Row wr w.heap.size 26 [.int .i64 p, .int .i64 q] ∧ Below w.heap.size w wr) (fun i _ => es.length - (intOf i).toNat)
    case atStart => exact ⟨0, List.replicate m 0, by omega, rfl, fun j hj => absurd hj (by omega), ⟨by simp, fun v hv => by show _ = getn zer v; rw [getn_zer]; unfold getn; rw [List.getD_eq_getElem?_getD, List.getElem?_replicate]; split <;> rfl⟩, r4, r0, hb4⟩
    case round =>
      clear r4 r0 hb4
      obtain ⟨k, cs, hk, rfl, hall, ⟨hcl, hcv⟩, hr, hr0, hbr⟩ := hrel
      have HALL := Lib.hid hall
      have HLE := Lib.hid (ldT_le es k hall)
      have HCL := Lib.hid hcl
      have HCV := Lib.hid hcv
      obtain ⟨⟨k0, k1⟩, -⟩ := hr0.cells2
      clear hall hcl hcv
      by_cases hlt : k < es.length
      · obtain ⟨b, o, rfl, hb1, hc⟩ := (ha.below hbr) (by omega)
        obtain ⟨b', o', rfl, hb1', hc'⟩ := (hb.below hbr) (by have := HL.out; omega)
        obtain ⟨c1, c2⟩ := hc k hlt
        obtain ⟨c3, c4⟩ := hc' k (by have := HL.out; omega)
        obtain ⟨ea, eb, e1, e2, hab, hbm⟩ := HE.out k hlt
        have hlk : k < ss.length := by have := HL.out; omega
        have E1 := Lib.hid e1
        have E2 := Lib.hid e2
        rw [e1] at c1
        rw [e2] at c2
        clear hc hc' e1 e2
        have d5 : wr.cell? ⟨w.heap.size + 1, ea, none⟩ = some (.int .i64 (getn cs ea)) := intv_row hr (by rw [HCL.out]; omega)
        have f5 := hr.free ea
        have d6 : wr.cell? ⟨w.heap.size + 1, eb, none⟩ = some (.int .i64 (getn cs eb)) := intv_row hr (by rw [HCL.out]; omega)
        have f6 := hr.free eb
        have hba : getn cs ea ≤ 1000000 * (2 * 1000) := by
          rw [HCV.out ea (by omega)]; exact Nat.le_trans (HLE.out ea) (Nat.mul_le_mul (by omega) (by omega))
        have hbb : getn cs eb ≤ 1000000 * (2 * 1000) := by
          rw [HCV.out eb hbm]; exact Nat.le_trans (HLE.out eb) (Nat.mul_le_mul (by omega) (by omega))
        have hne : ea ≠ eb := by omega
        have HBAD := Lib.hid (fun (hbad : ¬ (0 ≤ pA ss k ∧ pA ss k ≤ q ∧ pB ss k = q - pA ss k)) => (by unfold provV; apply decide_eq_false; exact fun h => hbad (h.2.1 k hlt) : provV es ss p q = false))
        generalize hX : pA ss k = x at *
        generalize hY : pB ss k = y at *
        have HX := Lib.hid hX
        have HY := Lib.hid hY
        clear hX hY
        cases g1 : decide (x < 0)
        · cases g2 : decide ((q : Int) < x)
          · cases g3 : decide (y < 0)
            · cases g4 : decide ((q : Int) < y)
              · have := of_decide_eq_false g1
                have := of_decide_eq_false g2
                have := of_decide_eq_false g3
                have := of_decide_eq_false g4
                obtain ⟨xa, rfl⟩ : ∃ xa : Nat, x = xa := ⟨x.toNat, by omega⟩
                obtain ⟨yb, rfl⟩ : ∃ yb : Nat, y = yb := ⟨y.toNat, by omega⟩
                cases g5 : ((xa : Int) + yb != q)
                · have hxy : xa + yb = q := by simp at g5; omega
                  have HXY := Lib.hid hxy
                  clear hxy
                  go_wp2
                  go_quiet (fail)
                  go_wp2
                  go_quiet (fail)
                  go_wp2
                  go_roundw
                  case rel =>
                    have h5 : ∀ N, Row (((wr.drewN N).setCell ⟨w.heap.size + 1, ea, none⟩ (.int .i64 ((getn cs ea + xa : Nat) : Int))).setCell ⟨w.heap.size + 1, eb, none⟩ (.int .i64 ((getn cs eb + yb : Nat) : Int))) (w.heap.size + 1) 3 (intv ((cs.set ea (getn cs ea + xa)).set eb (getn cs eb + yb))) := fun N => by
                      have := ((hr.drewN N).set ea (.int .i64 ((getn cs ea + xa : Nat) : Int))).set eb (.int .i64 ((getn cs eb + yb : Nat) : Int))
                      rwa [intv_set, intv_set] at this
                    refine ⟨k + 1, (cs.set ea (getn cs ea + xa)).set eb (getn cs eb + yb), by omega, by go_num, fun j hj => ?_, ⟨by simp [HCL.out], fun v hv => ?_⟩, h5 _, ((hr0.drewN _).far (by dsimp only; omega) _).far (by dsimp only; omega) _, ((hbr.trans (below_drewN _)).setCell (by dsimp only; omega) _).setCell (by dsimp only; omega) _⟩
                    · by_cases e : j = k
                      · subst e; have := HXY.out; rw [HX.out, HY.out]; omega
                      · exact HALL.out j (by omega)
                    · rw [ldT, E1.out, E2.out, HX.out, HY.out]
                      unfold ldS
                      simp only [Int.toNat_natCast]
                      rw [getn_set (by rw [List.length_set, HCL.out]; omega), getn_set (by rw [HCL.out]; omega), getn_set (by rw [List.length_set, ldT_len]; omega), getn_set (by rw [ldT_len]; omega), getn_set (by rw [ldT_len]; omega)]
                      rw [if_neg hne, HCV.out ea (by omega), HCV.out eb hbm, HCV.out v hv]
                  case measure => simp [intOf]; omega
                · go_wp2
                  go_quiet (fail)
                  go_wp2
                  go_ret
                  exact ⟨ret_bool (HBAD.out (by simp at g5; omega)).symm, hbr.trans (below_drewN nq)⟩
              · go_wp2
                go_quiet (fail)
                go_wp2
                go_ret
                exact ⟨ret_bool (HBAD.out (by have := of_decide_eq_true g4; have := of_decide_eq_false g1; omega)).symm, hbr.trans (below_drewN nq)⟩
            · go_wp2
              go_quiet (fail)
              go_wp2
              go_ret
              exact ⟨ret_bool (HBAD.out (by have := of_decide_eq_true g3; have := of_decide_eq_false g2; omega)).symm, hbr.trans (below_drewN nq)⟩
          · go_wp2
            go_quiet (fail)
            go_wp2
            go_ret
            exact ⟨ret_bool (HBAD.out (by have := of_decide_eq_true g2; omega)).symm, hbr.trans (below_drewN nq)⟩
        · go_wp2
          go_quiet (fail)
          go_wp2
          go_ret
          exact ⟨ret_bool (HBAD.out (by have := of_decide_eq_true g1; omega)).symm, hbr.trans (below_drewN nq)⟩
      · obtain rfl : k = es.length := by omega
        have hzero := ldT_far es ss (m := m) es.length (fun i hi => by obtain ⟨a, b, h1, h2, h3, h4⟩ := HE.out i hi; omega)
        have HZ := Lib.hid hzero
        clear hzero
        obtain ⟨wo, rfl⟩ : ∃ wo : World, wo = wr := ⟨_, rfl⟩
        go_wp2
        go_loopw [15] (fun i wr => ∃ (v n : Nat), v ≤ m ∧ i = .int .i64 v ∧ (∀ u, u < v → getn cs u ≤ p) ∧ wr = wo.drewN n) (fun i _ => m - (intOf i).toNat)
        case atStart => exact ⟨0, 0, by omega, rfl, fun u hu => absurd hu (by omega), rfl⟩
        case round =>
          obtain ⟨v, n, hv, rfl, hup, rfl⟩ := hrel
          have HUP := Lib.hid hup
          clear hup
          by_cases hvm : v < m
          · have d7 : wo.cell? ⟨w.heap.size + 1, v, none⟩ = some (.int .i64 (getn cs v)) := intv_row hr (by rw [HCL.out]; exact hvm)
            cases g6 : decide (p < getn cs v)
            · go_wp2
              go_quiet (fail)
              go_wp2
              go_roundw
              case rel => exact ⟨v + 1, n + nq, by omega, by go_num, fun u hu => by
                by_cases e : u = v
                · subst e; have := of_decide_eq_false g6; omega
                · exact HUP.out u (by omega), by first | rfl | exact World.drewN_drewN _ _ _⟩
              case measure => simp [intOf]; omega
            · go_wp2
              go_quiet (fail)
              go_wp2
              go_ret
              refine ⟨ret_bool ?_, (hbr.trans (below_drewN n)).trans (below_drewN nq)⟩
              symm
              unfold provV
              apply decide_eq_false
              intro hh
              have h1 := hh.2.2 v (by omega)
              have := of_decide_eq_true g6
              have := HCV.out v hvm
              omega
          · obtain rfl : v = m := by omega
            go_wp2
            go_ret
            refine ⟨ret_bool ?_, hbr.trans (below_drewN n)⟩
            symm
            unfold provV
            apply decide_eq_true
            refine ⟨HL.out, HALL.out, fun u hu => ?_⟩
            by_cases e : u < v
            · have := HCV.out u e; have := HUP.out u e; omega
            · rw [HZ.out u (by omega)]; omega
end Go.Proofs.Ytpaeagkgmbhndaa
