/- The reference's own core numbers. -/
import Derived.Deep.LoopGhost
import Derived.Test.YtmfpegadcecknaaAZ
namespace Go.Proofs.Ytmfpegadcecknaa
open Go.RowKit
set_option maxHeartbeats 1000000
set_option maxRecDepth 100000
theorem info4 : (Try.prog.info? 4).map (fun i => (i.zero, i.size, i.bytes)) = some (some (.bool false), 1, 1) := by kernel_rfl
theorem bcells_len (n : Nat) (f : Nat → Bool) : (bcells n f).length = n := by simp [bcells]
theorem bcells_congr {n : Nat} {f g : Nat → Bool} (h : ∀ i, i < n → f i = g i) : bcells n f = bcells n g := by
  unfold bcells
  exact List.map_congr_left fun i hi => by rw [h i (List.mem_range.1 hi)]
theorem made_bools (m : Nat) : (madeCells (Value.bool false).cells (m * 1)).toList = bcells m fun _ => false := by
  unfold madeCells bcells
  have : (Value.bool false).cells = #[.bool false] := rfl
  rw [this]
  apply List.ext_getElem?
  intro i
  by_cases h : i < m
  · simp [Nat.mod_one, h]
  · simp [Nat.mod_one, h]
theorem own_made4 {w : World} {b g m : Nat} (h : w.ownsRow b 4 1 (.slice (some ⟨g, 0, none⟩) m m) m (madeCells (Value.bool false).cells (m * 1)).toList) : Row w g 4 (bcells m fun _ => false) := by
  rw [made_bools] at h
  rcases h.2 with ⟨h, _⟩ | ⟨g', cap, cur, h, hb, hg, hc, _, hs, ht⟩
  · cases h
  · injection h with h1 _ h2; injection h1 with h1; injection h1 with h1; subst h1; subst h2
    unfold Row
    rw [hg, ← ht]
    congr 2
    rw [List.take_of_length_le (by simp; omega)]
/-- All sets in which all have k neighbors lie in S. -/
def Sup (gs : List Nat) (m k S : Nat) : Prop := ∀ T, T < 65536 → (∀ u, u < 16 → sHas T u = true → u < m) → Dense gs k T → ∀ u, u < 16 → sHas T u = true → sHas S u = true
structure AgI (gs : List Nat) (m k S : Nat) (ab : Bool) : Prop where
  lt : S < 65536
  low : ∀ u, sHas S u = true → u < m
  sup : Sup gs m k S
  no : ab = false → Dense gs k S
structure PassI (gs : List Nat) (m k S0 t S : Nat) (ab : Bool) : Prop where
  lt : S < 65536
  sub : ∀ u, sHas S u = true → sHas S0 u = true
  sup : Sup gs m k S
  no : ab = false → S = S0 ∧ ∀ u, u < t → sHas S0 u = true → k ≤ nb gs S0 u
  yes : ab = true → pc 16 S < pc 16 S0
theorem AgI.start (gs : List Nat) {m : Nat} (hm : m ≤ 16) (k : Nat) : AgI gs m k (sAll m) true :=
  ⟨all_lt hm, fun u hu => by unfold sHas at hu; rw [all_bit] at hu; simpa using hu, fun T _ hT _ u hu h => by unfold sHas; rw [all_bit]; simpa using hT u hu h, fun h => by cases h⟩
theorem AgI.pass {gs : List Nat} {m k S : Nat} {ab : Bool} (h : AgI gs m k S ab) : PassI gs m k S 0 S false := ⟨h.lt, fun _ h => h, h.sup, fun _ => ⟨rfl, fun u hu => absurd hu (by omega)⟩, fun h => by cases h⟩
theorem PassI.skip {gs : List Nat} {m k S0 t S : Nat} {ab : Bool} (h : PassI gs m k S0 t S ab) (hs : sHas S t = false) : PassI gs m k S0 (t + 1) S ab :=
  ⟨h.lt, h.sub, h.sup, fun e => ⟨(h.no e).1, fun u hu hv => by
    by_cases e2 : u = t
    · subst e2; rw [← (h.no e).1, hs] at hv; cases hv
    · exact (h.no e).2 u (by omega) hv⟩, h.yes⟩
theorem PassI.keep {gs : List Nat} {m k S0 t S : Nat} {ab : Bool} (h : PassI gs m k S0 t S ab) (hs : k ≤ nb gs S t) : PassI gs m k S0 (t + 1) S ab :=
  ⟨h.lt, h.sub, h.sup, fun e => ⟨(h.no e).1, fun u hu hv => by
    by_cases e2 : u = t
    · subst e2; rw [← (h.no e).1]; exact hs
    · exact (h.no e).2 u (by omega) hv⟩, h.yes⟩
theorem PassI.rem {gs : List Nat} {m k S0 t S : Nat} {ab : Bool} (h : PassI gs m k S0 t S ab) (ht : t < 16) (h1 : sHas S t = true) (hs : nb gs S t < k) : PassI gs m k S0 (t + 1) (sWithout S t) true := by
  have hw : ∀ j, sHas (sWithout S t) j = (sHas S j && !decide (t = j)) := fun j => without_bit S t j h.lt ht
  refine ⟨without_lt h.lt, fun u hu => h.sub u (by rw [hw] at hu; simp at hu; exact hu.1), fun T hT hTm hTd u hu hv => ?_, (fun e => by cases e), fun _ => ?_⟩
  · have hsub := h.sup T hT hTm hTd
    rw [hw, hsub u hu hv]
    have : t ≠ u := fun e => by
      subst e
      have h3 := hTd t ht hv
      have h4 := nb_mono (gs := gs) hsub t
      omega
    simp [this]
  · have h2 := pc_without h.lt ht h1
    have h3 : pc 16 S ≤ pc 16 S0 := pc_mono fun v _ hv => h.sub v hv
    omega
theorem PassI.done {gs : List Nat} {m k S0 S : Nat} {ab : Bool} (h : PassI gs m k S0 m S ab) (h0 : AgI gs m k S0 true) : AgI gs m k S ab ∧ 2 * pc 16 S + (if ab = true then 1 else 0) < 2 * pc 16 S0 + 1 := by
  refine ⟨⟨h.lt, fun u hu => h0.low u (h.sub u hu), h.sup, fun e => ?_⟩, ?_⟩
  · obtain ⟨h1, h2⟩ := h.no e
    subst h1
    exact fun u _ hv => h2 u (h0.low u hv) hv
  · cases ab with
    | true => have := h.yes rfl; simp; omega
    | false => obtain ⟨h1, _⟩ := h.no rfl; subst h1; simp
/-- The core numbers up to k - 1. -/
def CoreI (m : Nat) (gs : List Nat) (k t : Nat) (cs : List Nat) : Prop := cs.length = m ∧ ∀ v, v < m → getn cs v = if v < t then min (getn (coreF m gs) v) k else min (getn (coreF m gs) v) (k - 1)
theorem CoreI.step {m : Nat} {gs : List Nat} {k t S : Nat} {cs : List Nat} (h : CoreI m gs k t cs) (hI : Irr gs) (hm : m ≤ 16) (hk : 1 ≤ k) (ht : t < m) (ha : AgI gs m k S false) :
    (sHas S t = true → CoreI m gs k (t + 1) (cs.set t k)) ∧ (sHas S t = false → CoreI m gs k (t + 1) cs) := by
  have hc := core_set hI hm hk ha.lt ha.low (ha.no rfl) ha.sup (v := t) ht
  refine ⟨fun hs => ⟨by rw [List.length_set]; exact h.1, fun v hv => ?_⟩, fun hs => ⟨h.1, fun v hv => ?_⟩⟩
  · rw [getn_set (by rw [h.1]; exact ht)]
    by_cases e : t = v
    · subst e; have := hc.1 hs; rw [if_pos rfl, if_pos (by omega)]; omega
    · rw [if_neg e, h.2 v hv]; split <;> split <;> omega
  · rw [h.2 v hv]
    by_cases e : v = t
    · subst e
      have : ¬ k ≤ getn (coreF m gs) v := fun hh => by rw [hc.2 hh] at hs; cases hs
      split <;> split <;> omega
    · split <;> split <;> omega
theorem CoreI.next {m : Nat} {gs : List Nat} {k : Nat} {cs : List Nat} (h : CoreI m gs k m cs) : CoreI m gs (k + 1) 0 cs :=
  ⟨h.1, fun v hv => by rw [h.2 v hv, if_pos hv, if_neg (by omega)]; rfl⟩
theorem CoreI.start (m : Nat) (gs : List Nat) : CoreI m gs 1 0 (List.replicate m 0) :=
  ⟨by simp, fun v hv => by
    have : getn (List.replicate m 0) v = 0 := by unfold getn; rw [List.getD_eq_getElem?_getD, List.getElem?_replicate]; split <;> rfl
    rw [this]; simp⟩
theorem CoreI.fin {m : Nat} {gs : List Nat} {cs : List Nat} (h : CoreI m gs m 0 cs) (hI : Irr gs) (hm : m ≤ 16) (hlow : ∀ u v, sHas (near gs u) v = true → v < m) : cs = coreF m gs := by
  have hl : (coreF m gs).length = m := coreL_len m _
  apply List.ext_getElem
  · rw [h.1, hl]
  · intro i h1 h2
    have h3 := h.2 i (by rw [← h.1]; exact h1)
    have h4 := core_lt hI hlow hm (v := i) (by rw [← h.1]; exact h1)
    rw [getn_eq h1, getn_eq h2] at h3
    rw [getn_eq h2] at h4
    simp at h3
    omega
theorem RefCores_any (m : Nat) (A : Option Addr) (c : Nat) (es : List (Int × Int)) (gs : List Nat) (w : World) (hx : es.length ≤ 1000000) (ha : PairsAt w A es) (h : readF m es = some gs) :
    Calls Try.prog 35 #[.int .i64 m, .slice A es.length c] w fun e w' => ∃ g, e = .returned (.slice (some ⟨g, 0, none⟩) m m) ∧ w.heap.size ≤ g ∧ Row w' g 3 (intv (coreF m gs)) ∧ Below w.heap.size w w' := by
  obtain ⟨i0, hi, hz0, hz1, hz2⟩ := info_parts info3
  obtain ⟨j0, ji, jz0, jz1, jz2⟩ := info_parts info4
  obtain ⟨hm1, hm2, hg, hI⟩ := readF_ok h
  have hm : m ≤ 16 := by omega
  have hm1' : 1 ≤ m := by omega
  have HH := Lib.hid h
  have HLO := Lib.hid (fun u v (hu : sHas (near gs u) v = true) => readF_low h (by rw [readF_sym h]; exact hu))
  have HII := Lib.hid hI
  clear h hm1 hm2 hg hI
  go_enter Try.func35, Try.ntmps35
  go_wp2_with (first
    | (at_make; refine wpList_make_full _ rfl _ _ 24 rfl w.heap.size 3 i0 (.int .i64 0) 1 Try.underlying24 hi hz0 hz1 .i64 .i64 _ _ m rfl rfl rfl rfl (by rw [hz2]; omega) (by unfold maxLen; omega) (Nat.le_refl _) ?_; intro w4 o3 hg4; have r4 := own_made o3; have hb4 : Below w.heap.size w w4 := (Below.refl _ _).grown hg4 (Nat.le_refl _) (by simp); clear o3 hg4))
  go_loopw [6] (fun i wr => ∃ (k : Nat) (cs : List Nat), 1 ≤ k ∧ k ≤ m ∧ i = .int .i64 k ∧ CoreI m gs k 0 cs ∧ Row wr w.heap.size 3 (intv cs) ∧ Below w.heap.size w wr) (fun i _ => m - (intOf i).toNat)
  case atStart => exact ⟨1, List.replicate m 0, by omega, hm1', rfl, CoreI.start m gs, r4, hb4⟩
  case round =>
    clear r4 hb4
    obtain ⟨k, cs, hk1, hkm, rfl, hci, hr, hb⟩ := hrel
    have HC := Lib.hid hci
    clear hci
    by_cases hlt : k < m
    · obtain ⟨wo, rfl⟩ : ∃ wo : World, wo = wr := ⟨_, rfl⟩
      go_wp2_with (first
        | (at_make; refine wpList_make_full _ rfl _ _ 97 rfl wo.heap.size 4 j0 (.bool false) 1 Try.underlying97 ji jz0 jz1 .i64 .i64 _ _ m rfl rfl rfl rfl (by rw [jz2]; omega) (by unfold maxLen; omega) (Nat.le_refl _) ?_; intro w5 o5 hg5; have r5 := own_made4 o5; have hr5 := hr.grown hg5 (by simp); have hb5 : Below w.heap.size w w5 := hb.grown hg5 hb.size (by simp); have hz5 := hr.lt; clear o5 hg5 hr hb))
      go_loopw [8] (fun j W => ∃ t : Nat, t ≤ m ∧ j = .int .i64 t ∧ Row W wo.heap.size 4 (bcells m fun u => decide (u < t)) ∧ Row W w.heap.size 3 (intv cs) ∧ Below w.heap.size w W) (fun j _ => m - (intOf j).toNat)
      case atStart => exact ⟨0, by omega, rfl, by simpa using r5, hr5, hb5⟩
      case round =>
        clear r5 hr5 hb5
        obtain ⟨t, ht, rfl, r6, hr6, hb6⟩ := hrel
        by_cases htm : t < m
        · have c6 : wr.cell? ⟨wo.heap.size, t, none⟩ = some (.bool (decide (t < t))) := by rw [r6.cell, bcells_at _ htm]
          have f6 := r6.free t
          go_wp2
          go_roundw
          case rel =>
            refine ⟨t + 1, by omega, by go_num, ?_, hr6.far (by dsimp only; omega) _, hb6.setCell (by dsimp only; omega) _⟩
            have := r6.set t (.bool true)
            rw [bcells_set] at this
            rwa [bcells_congr (g := fun u => decide (u < t + 1)) (fun i _ => by by_cases e : i = t <;> simp [e]; omega)] at this
          case measure => simp [intOf]; omega
        · obtain rfl : t = m := by omega
          have r7 : Row wr wo.heap.size 4 (bcells t (sHas (sAll t))) := by
            rwa [bcells_congr (g := sHas (sAll t)) (fun i hi => by unfold sHas; rw [all_bit])] at r6
          clear r6
          go_wp2
          go_loopg [9] (2 * pc 16 (sAll t) + 1) (fun n b W => ∃ (S : Nat) (ab : Bool), n = 2 * pc 16 S + (if ab = true then 1 else 0) ∧ b = .bool ab ∧ AgI gs t k S ab ∧ Row W wo.heap.size 4 (bcells t (sHas S)) ∧ Row W w.heap.size 3 (intv cs) ∧ Below w.heap.size w W)
          case atStart => exact ⟨sAll t, true, rfl, rfl, AgI.start gs hm k, r7, hr6, hb6⟩
          case round =>
            clear r7 hr6 hb6
            obtain ⟨S, ab, hn, rfl, hag, r7, hr6, hb6⟩ := hrel
            have HN := Lib.hid hn
            have HA := Lib.hid hag
            clear hn hag
            cases ab with
            | true =>
              go_wp2
              go_loopw [9, 10] (fun b j W => ∃ (u S' : Nat) (ab : Bool), u ≤ t ∧ j = .int .i64 u ∧ b = .bool ab ∧ PassI gs t k S u S' ab ∧ Row W wo.heap.size 4 (bcells t (sHas S')) ∧ Row W w.heap.size 3 (intv cs) ∧ Below w.heap.size w W) (fun _ j _ => t - (intOf j).toNat)
              case atStart => exact ⟨0, S, false, by omega, rfl, rfl, HA.out.pass, r7, hr6, hb6⟩
              case round =>
                clear r7 hr6 hb6
                obtain ⟨u, S', ab, hu, rfl, rfl, hp, r7, hr6, hb6⟩ := hrel
                have HP := Lib.hid hp
                clear hp
                by_cases hut : u < t
                · have c7 : wr.cell? ⟨wo.heap.size, u, none⟩ = some (.bool (sHas S' u)) := by rw [r7.cell, bcells_at _ hut]
                  have f7 := r7.free u
                  have pa := ha.below hb6
                  cases hs : sHas S' u
                  · rw [hs] at c7
                    have HS := Lib.hid hs
                    clear hs
                    go_wp2
                    go_roundw
                    case rel => exact ⟨u + 1, S', ab, by omega, by go_num, rfl, HP.out.skip HS.out, r7, hr6, hb6⟩
                    case measure => simp [intOf]; omega
                  · rw [hs] at c7
                    have HS := Lib.hid hs
                    have HNB := Lib.hid (fun W pa r => neighbors_any t A c es gs wo.heap.size S' u W hx pa HH.out r)
                    have hnl := pc_le 16 (sAnd (near gs u) S')
                    have hnb : nb gs S' u ≤ 16 := hnl
                    clear hs hnl
                    by_cases hlt2 : nb gs S' u < k
                    · go_wp2_with (go_at_call 55; refine (HNB.out _ pa r7).mono ?_; rintro e w' ⟨rfl, rfl⟩)
                      go_roundw
                      case rel =>
                        refine ⟨u + 1, sWithout S' u, true, by omega, by go_num, rfl, HP.out.rem (by omega) HS.out hlt2, ?_, hr6.far (by dsimp only; omega) _, hb6.setCell (by dsimp only; omega) _⟩
                        have := r7.set u (.bool false)
                        rw [bcells_set] at this
                        rwa [bcells_congr (g := sHas (sWithout S' u)) (fun i _ => by
                          have := without_bit S' u i HP.out.lt (by omega)
                          unfold sHas
                          rw [this]
                          by_cases e : i = u
                          · subst e; simp
                          · simp [e, Ne.symm e])] at this
                      case measure => simp [intOf]; omega
                    · go_wp2_with (go_at_call 55; refine (HNB.out _ pa r7).mono ?_; rintro e w' ⟨rfl, rfl⟩)
                      go_roundw
                      case rel => exact ⟨u + 1, S', ab, by omega, by go_num, rfl, HP.out.keep (by omega), r7, hr6, hb6⟩
                      case measure => simp [intOf]; omega
                · obtain rfl : u = t := by omega
                  obtain ⟨d1, d2⟩ := HP.out.done HA.out
                  have D1 := Lib.hid d1
                  have D2 := Lib.hid d2
                  clear d1 d2
                  go_wp2
                  go_roundg (2 * pc 16 S' + (if ab = true then 1 else 0))
                  case rel => exact ⟨S', ab, rfl, rfl, D1.out, r7, hr6, hb6⟩
                  case measure => rw [HN.out, if_pos trivial]; exact D2.out
            | false =>
              go_wp2
              go_loopw [11] (fun j W => ∃ (u : Nat) (cs' : List Nat), u ≤ t ∧ j = .int .i64 u ∧ CoreI t gs k u cs' ∧ Row W wo.heap.size 4 (bcells t (sHas S)) ∧ Row W w.heap.size 3 (intv cs') ∧ Below w.heap.size w W) (fun j _ => t - (intOf j).toNat)
              case atStart => exact ⟨0, cs, by omega, rfl, HC.out, r7, hr6, hb6⟩
              case round =>
                clear r7 hr6 hb6
                obtain ⟨u, cs', hu, rfl, hci, r7, hr6, hb6⟩ := hrel
                have HC2 := Lib.hid hci
                clear hci
                by_cases hut : u < t
                · have c7 : wr.cell? ⟨wo.heap.size, u, none⟩ = some (.bool (sHas S u)) := by rw [r7.cell, bcells_at _ hut]
                  obtain ⟨s1, s2⟩ := HC2.out.step HII.out hm hk1 hut HA.out
                  have S1 := Lib.hid s1
                  have S2 := Lib.hid s2
                  clear s1 s2
                  cases hs : sHas S u
                  · rw [hs] at c7
                    have HS := Lib.hid hs
                    clear hs
                    go_wp2
                    go_roundw
                    case rel => exact ⟨u + 1, cs', by omega, by go_num, S2.out HS.out, r7, hr6, hb6⟩
                    case measure => simp [intOf]; omega
                  · rw [hs] at c7
                    have HS := Lib.hid hs
                    clear hs
                    have c8 : wr.cell? ⟨w.heap.size, u, none⟩ = some (.int .i64 (getn cs' u)) := intv_row hr6 (by rw [HC2.out.1]; exact hut)
                    have f8 := hr6.free u
                    go_wp2
                    go_roundw
                    case rel =>
                      refine ⟨u + 1, cs'.set u k, by omega, by go_num, S1.out HS.out, r7.far (by dsimp only; omega) _, ?_, hb6.setCell (by dsimp only; omega) _⟩
                      have := hr6.set u (.int .i64 k)
                      rwa [intv_set] at this
                    case measure => simp [intOf]; omega
                · obtain rfl : u = t := by omega
                  go_wp2
                  go_roundw
                  case rel => exact ⟨k + 1, cs', by omega, by omega, by go_num, HC2.out.next, hr6, hb6⟩
                  case measure => simp [intOf]; omega
    · obtain rfl : k = m := by omega
      have HF := Lib.hid (HC.out.fin HII.out hm HLO.out)
      go_wp2
      go_ret
      rw [← HF.out]
      exact ⟨_, rfl, Nat.le_refl _, hr, hb⟩
end Go.Proofs.Ytmfpegadcecknaa
