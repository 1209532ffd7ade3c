/- MarksPeriods walked. -/
import Derived.Test.YtoklnpiehbnalaaMP
import Derived.Test.YtoklnpiehbnalaaBL
import Derived.Test.YtoklnpiehbnalaaBA
import Derived.OwnWalk
namespace Go.Proofs.Ytoklnpiehbnalaa
open Go.RowKit Go.PlainAid
set_option maxHeartbeats 2000000
set_option maxRecDepth 100000
def bcells (n : Nat) (f : Nat → Bool) : List Value := (List.range n).map fun i => .bool (f i)
theorem bcells_at {n : Nat} (f : Nat → Bool) {j : Nat} (h : j < n) : (bcells n f)[j]? = some (.bool (f j)) := by
  unfold bcells; rw [List.getElem?_map, List.getElem?_range h]; rfl
theorem bcells_set {n : Nat} {f : Nat → Bool} {v : Nat} (x : Bool) : (bcells n f).set v (.bool x) = bcells n (fun j => if j = v then x else f j) := by
  unfold bcells
  apply List.ext_getElem?
  intro i
  rw [List.getElem?_set, List.getElem?_map, List.getElem?_map]
  by_cases hi : i < n
  · rw [List.getElem?_range hi]
    by_cases e : v = i
    · subst e; simp [hi]
    · simp [e, Ne.symm e]
  · rw [List.getElem?_eq_none (by simpa using hi)]
    by_cases e : v = i
    · subst e; simp [hi]
    · simp [e]
theorem info4 : (Try.prog.info? 4).map (fun i => (i.zero, i.size, i.bytes)) = some (some (.bool false), 1, 1) := by kernel_rfl
theorem bcells_len (n : Nat) (f : Nat → Bool) : (bcells n f).length = n := by simp [bcells]
theorem bcells_congr {n : Nat} {f g : Nat → Bool} (h : ∀ i, i < n → f i = g i) : bcells n f = bcells n g := by
  unfold bcells
  exact List.map_congr_left fun i hi => by rw [h i (List.mem_range.1 hi)]
theorem made_bools (m : Nat) : (madeCells (Value.bool false).cells (m * 1)).toList = bcells m fun _ => false := by
  unfold madeCells bcells
  have : (Value.bool false).cells = #[.bool false] := rfl
  rw [this]
  apply List.ext_getElem?
  intro i
  by_cases h : i < m
  · simp [Nat.mod_one, h]
  · simp [Nat.mod_one, h]
theorem own_made4 {w : World} {b g m : Nat} (h : w.ownsRow b 4 1 (.slice (some ⟨g, 0, none⟩) m m) m (madeCells (Value.bool false).cells (m * 1)).toList) : Row w g 4 (bcells m fun _ => false) := by
  rw [made_bools] at h
  rcases h.2 with ⟨h, _⟩ | ⟨g', cap, cur, h, hb, hg, hc, _, hs, ht⟩
  · cases h
  · injection h with h1 _ h2; injection h1 with h1; injection h1 with h1; subst h1; subst h2
    unfold Row
    rw [hg, ← ht]
    congr 2
    rw [List.take_of_length_le (by simp; omega)]
theorem marksPeriods_walk (s t : ByteArray) (ps : List Nat) (n M : Nat) (w : World) (hn : t.size = n) (hn120 : n ≤ 120) (hM : ps.length = M + 1) (hMn : M + 1 ≤ n) (hB : t.toList.isEmpty = false) (hlast : getn ps M = n)
    (h1 : ∀ i, i < M + 1 → 1 ≤ getn ps i ∧ getn ps i ≤ n) (h2 : ∀ i j, i < j → j < M + 1 → getn ps i < getn ps j)
    (h5 : ∀ i, i < M + 1 → ∀ c, 1 ≤ c → c * getn ps i ≤ n → c * getn ps i ∈ ps)
    (h6 : ∀ i j, i < M + 1 → j < M + 1 → getn ps j + getn ps i ≤ n → Nat.gcd (getn ps i) (getn ps j) ∈ ps)
    (H0 : Hid (∀ V, Calls Try.prog 48 #[.string s, .int .i64 120, .int .i64 4] V fun e w' => e = .returned (.string t) ∧ Below V.heap.size V w'))
    (H1 : Hid (∀ V, Calls Try.prog 22 #[.string t] V (NewLE V (natI ps) 0))) :
    Calls Try.prog 11 #[.string s] w fun e w' => e = .returned (.bool true) ∧ Below w.heap.size w w' := by
  obtain ⟨j0, ji, jz0, jz1, jz2⟩ := info_parts info4
  have HAW := Lib.hid awake_any
  have b0 := Below.refl w.heap.size w
  have HN : Hid ((natI ps).length = M + 1) := Lib.hid (by rw [natI_len, hM])
  have HG := Lib.hid (geti_natI ps)
  have HL := Lib.hid hlast
  have P1 := Lib.hid h1
  have P2 := Lib.hid h2
  have P5 := Lib.hid h5
  have P6 := Lib.hid h6
  have HM := Lib.hid hM
  have q1 : ((M : Int) + 1 == 0) = false := by rw [beq_eq_false_iff_ne]; omega
  have q2 : decide ((n : Int) < (M : Int) + 1) = false := decide_eq_false (by omega)
  have q3 : decide (n < M + 1) = false := decide_eq_false (by omega)
  have q4 : decide ((0 : Int) < (M : Int) + 1) = true := decide_eq_true (by omega)
  clear hlast h1 h2 h5 h6 hM
  go_enter Try.func11, Try.ntmps11
  go_wp2_with (first
    | (go_at_call 48; (with_reducible refine (H0.out _).mono ?_); rintro e w1 ⟨rfl, b1⟩; replace b0 := b0.trans (b1.mono b0.size))
    | (go_at_call 22; ((with_reducible refine (H1.out _).mono ?_); rintro e w2 ⟨v1, rfl, o1, b2⟩); replace b0 := b0.trans (b2.mono b0.size); obtain ⟨A1, c1, rfl, -, -, i1⟩ := own_intsI o1; rw [HN.out]; clear o1; obtain ⟨bA, oA, rfl, hbA, hcA⟩ := i1 (by rw [HN.out]; exact Nat.succ_pos _); have clast : w2.cell? ⟨bA, oA + M, none⟩ = some (.int .i64 n) := (hcA M (by have := HN.out; omega)).trans (by rw [HG.out, HL.out]); have HCA := Lib.hid hcA; clear hcA i1)
    | (at_make; refine wpList_make_full _ rfl _ _ 70 rfl w2.heap.size 4 j0 (.bool false) 1 Try.underlying70 ji jz0 jz1 .i64 .i64 _ _ (n + 1) rfl rfl rfl rfl (by rw [jz2]; omega) (by unfold maxLen; omega) (Nat.le_refl _) ?_; intro w5 o5 hg5; have r5 := own_made4 o5; have hb5 : Below w2.heap.size w2 w5 := (Below.refl _ _).grown hg5 (Nat.le_refl _) (by simp); clear o5 hg5))
  have CELL : Hid (∀ V i, Below w2.heap.size w2 V → i < M + 1 → V.cell? ⟨bA, oA + i, none⟩ = some (.int .i64 (getn ps i))) := Lib.hid (fun V i hV hi => by
    have h := HCA.out i (by have := HN.out; omega)
    rw [HG.out] at h
    exact (hV.cell (p := ⟨bA, _, none⟩) hbA).trans h)
  have TK0 : Hid (bcells (n + 1) (fun _ => false) = bcells (n + 1) (fun v => decide (v ∈ ps.take 0))) := Lib.hid (bcells_congr (fun i _ => by simp))
  have TKS : Hid (∀ i, i < M + 1 → (bcells (n + 1) (fun v => decide (v ∈ ps.take i))).set (getn ps i) (.bool true) = bcells (n + 1) (fun v => decide (v ∈ ps.take (i + 1)))) := Lib.hid (fun i hi => by
    rw [bcells_set]
    refine bcells_congr (fun v _ => ?_)
    have hl : i < ps.length := by have := HM.out; omega
    have e : ps.take (i + 1) = ps.take i ++ [getn ps i] := by rw [getn_eq hl, List.take_add_one, List.getElem?_eq_getElem hl]; rfl
    rw [e]
    by_cases h : v = getn ps i
    · rw [if_pos h]; simp [h]
    · rw [if_neg h]; simp [h])
  have TKE : Hid (ps.take (M + 1) = ps) := Lib.hid (by rw [← HM.out, List.take_length])
  clear HCA clast HN HG H0 H1 b1 b2 q1 q2 q3 q4
  have hb5' := hb5
  go_loopw [7] (fun v wr => ∃ i : Nat, v = .int .i64 i ∧ i ≤ M + 1 ∧ Row wr w2.heap.size 4 (bcells (n + 1) (fun v => decide (v ∈ ps.take i))) ∧ Below w2.heap.size w2 wr) (fun v _ => M + 1 - (intOf v).toNat)
  case atStart => exact ⟨0, rfl, by omega, by rw [← TK0.out]; exact r5, hb5⟩
  case round =>
    clear r5 hb5 hb5'
    obtain ⟨i, rfl, hi, r5, hb5⟩ := hrel
    by_cases hlt : i < M + 1
    · have g1 : decide ((i : Int) < (M : Int) + 1) = true := decide_eq_true (by omega)
      have g1' : decide (i < M + 1) = true := decide_eq_true hlt
      have ci := CELL.out wr i hb5 hlt
      have hp := P1.out i hlt
      have HTS := Lib.hid (TKS.out i hlt)
      have d1 : decide (((getn ps i : Nat) : Int) < 1) = false := decide_eq_false (by omega)
      have d2 : decide ((n : Int) < ((getn ps i : Nat) : Int)) = false := decide_eq_false (by omega)
      have d2' : decide (n < getn ps i) = false := decide_eq_false (by omega)
      have cT : wr.cell? ⟨w2.heap.size, getn ps i, none⟩ = some (.bool (decide (getn ps i ∈ ps.take i))) := (r5.cell _).trans (bcells_at _ (by omega))
      have fT := r5.free (getn ps i)
      rcases Nat.eq_zero_or_pos i with h0 | h0
      · subst h0
        rw [Nat.add_zero] at ci
        have hM0 : (0 : Int) < (M : Int) + 1 := by omega
        generalize getn ps 0 = p at *
        clear CELL P1 P2 P5 P6 TKS TKE
        go_wp2
        refine wp_region_quiet_lit (by kernel_rfl) (by kernel_rfl) ?_
        repeat go_big_quiet_step ((fail))
        refine wpQuiet_nil ?_
        rintro _ ⟨nq, rfl⟩
        go_wp2
        exact ⟨⟨0 + 1, rfl, by omega, by rw [← HTS.out]; exact (r5.drewN nq).set p _, (hb5.trans (below_drewN nq)).setCell (Nat.le_refl _) _⟩, by simp [intOf]⟩
      · obtain ⟨k, rfl⟩ : ∃ k, i = k + 1 := ⟨i - 1, by omega⟩
        have ck := CELL.out wr k hb5 (by omega)
        have hpp := P2.out k (k + 1) (by omega) hlt
        have hkM : k < M := by omega
        have hkM1 : k < M + 1 := by omega
        have hkI : (k : Int) < (M : Int) + 1 := by omega
        have d3 : decide (((getn ps (k + 1) : Nat) : Int) ≤ ((getn ps k : Nat) : Int)) = false := decide_eq_false (by omega)
        have d3' : decide (getn ps (k + 1) ≤ getn ps k) = false := decide_eq_false (by omega)
        generalize getn ps (k + 1) = p at *
        generalize getn ps k = q at *
        clear CELL P1 P2 P5 P6 TKS TKE
        go_wp2
        refine wp_region_quiet_lit (by kernel_rfl) (by kernel_rfl) ?_
        repeat go_big_quiet_step ((fail))
        refine wpQuiet_nil ?_
        rintro _ ⟨nq, rfl⟩
        go_wp2
        exact ⟨⟨k + 1 + 1, by go_num, by omega, by rw [← HTS.out]; exact (r5.drewN nq).set p _, (hb5.trans (below_drewN nq)).setCell (Nat.le_refl _) _⟩, by simp [intOf]; omega⟩
    · obtain rfl : i = M + 1 := by omega
      have g1 : decide (((M + 1 : Nat) : Int) < (M : Int) + 1) = false := decide_eq_false (by omega)
      rw [TKE.out] at r5
      obtain ⟨T, hT⟩ : ∃ T, bcells (n + 1) (fun v => decide (v ∈ ps)) = T := ⟨_, rfl⟩
      have TM : Hid (∀ v, v ≤ n → v ∈ ps → T[v]? = some (.bool true)) := Lib.hid (fun v h1 h2 => by
        rw [← hT, bcells_at _ (by omega), decide_eq_true h2])
      rw [hT] at r5
      clear TKS TKE TK0 P2 hT
      go_wp2
      simp only [show ((M + 1 : Nat) : Int) = (M : Int) + 1 from by omega]
      obtain ⟨w7, hw7⟩ : ∃ w7, w7 = wr := ⟨_, rfl⟩
      subst hw7
      go_loopw [8] (fun v wr => ∃ i : Nat, v = .int .i64 i ∧ i ≤ M + 1 ∧ Row wr w2.heap.size 4 T ∧ Below w2.heap.size w2 wr) (fun v _ => M + 1 - (intOf v).toNat)
      case atStart => exact ⟨0, rfl, by omega, r5, hb5⟩
      case round =>
        clear r5 hb5
        obtain ⟨i, rfl, hi, r5, hb5⟩ := hrel
        by_cases hlt : i < M + 1
        · have g1 : decide ((i : Int) < (M : Int) + 1) = true := decide_eq_true (by omega)
          have g1' : decide (i < M + 1) = true := decide_eq_true hlt
          have ci := CELL.out wr i hb5 hlt
          have hp := P1.out i hlt
          have HP5 := Lib.hid (P5.out i hlt)
          have hgi : Hid (getn ps i = getn ps i) := Lib.hid rfl
          obtain ⟨p, hpe⟩ : ∃ p, getn ps i = p := ⟨_, rfl⟩
          have HPE := Lib.hid hpe
          rw [hpe] at ci hp HP5
          clear hgi hpe
          go_wp2
          go_loop [9] (fun v => ∃ c : Nat, v = .int .i64 ((c * p : Nat) : Int) ∧ 1 ≤ c ∧ c * p ≤ n + p) (fun v => 400 - (intOf v).toNat)
          case atStart => exact ⟨2, by first | rfl | (congr 1; omega), by omega, by omega⟩
          case round =>
            obtain ⟨c, rfl, hc1, hc2⟩ := hrel
            have HQ := Lib.hid (HP5.out c hc1)
            have hs : (c + 1) * p = c * p + p := Nat.succ_mul c p
            obtain ⟨m, hm⟩ : ∃ m, c * p = m := ⟨_, rfl⟩
            rw [hm] at HQ hc2 hs
            have HS := Lib.hid hs
            rw [hm]
            by_cases hle : m ≤ n
            · have g2 : decide ((m : Int) ≤ (n : Int)) = true := decide_eq_true (by omega)
              have g2' : decide (m ≤ n) = true := decide_eq_true hle
              have cT : wr.cell? ⟨w2.heap.size, m, none⟩ = some (.bool true) := (r5.cell m).trans (TM.out m hle (HQ.out hle))
              clear hm hs
              go_wp2
              exact ⟨⟨c + 1, by rw [HS.out, Int.natCast_add], by omega, by rw [HS.out]; omega⟩, by simp [intOf]; omega⟩
            · have g2 : decide ((m : Int) ≤ (n : Int)) = false := decide_eq_false (by omega)
              have g2' : decide (m ≤ n) = false := decide_eq_false hle
              clear hm hs
              go_wp2
              clear HQ HS HP5
              obtain ⟨w8, hw8⟩ : ∃ w8, w8 = wr := ⟨_, rfl⟩
              subst hw8
              go_loopw [10] (fun v wr => ∃ j : Nat, v = .int .i64 j ∧ j ≤ i ∧ Row wr w2.heap.size 4 T ∧ Below w2.heap.size w2 wr) (fun v _ => M + 2 - (intOf v).toNat)
              case atStart => exact ⟨0, rfl, by omega, r5, hb5⟩
              case round =>
                clear r5 hb5 ci
                obtain ⟨j, rfl, hj, r5, hb5⟩ := hrel
                have ci := CELL.out wr i hb5 hlt
                rw [HPE.out] at ci
                by_cases hji : j < i
                · have k1 : decide (j < i) = true := decide_eq_true hji
                  have k2 : decide ((j : Int) < (i : Int)) = true := decide_eq_true (by omega)
                  have cj := CELL.out wr j hb5 (by omega)
                  have hq := P1.out j (by omega)
                  have HG := Lib.hid (P6.out i j hlt (by omega))
                  rw [HPE.out] at HG
                  have hjM : j < M + 1 := by omega
                  have hjI : (j : Int) < (M : Int) + 1 := by omega
                  have hiI : (i : Int) < (M : Int) + 1 := by omega
                  generalize getn ps j = q at *
                  by_cases hs : q + p ≤ n
                  · have k3 : decide ((q : Int) + (p : Int) ≤ (n : Int)) = true := decide_eq_true (by omega)
                    have k4 : decide (q + p ≤ n) = true := decide_eq_true hs
                    go_wp2
                    refine wp_region_quiet_lit (by kernel_rfl) (by kernel_rfl) ?_
                    repeat go_big_quiet_step ((fail))
                    refine wpQuiet_nil ?_
                    rintro _ ⟨nq, rfl⟩
                    go_wp2
                    have r6 := r5.drewN nq
                    have hb6 := hb5.trans (below_drewN nq)
                    have ci6 : (wr.drewN nq).cell? ⟨bA, oA + i, none⟩ = some (.int .i64 p) := ci
                    have cj6 : (wr.drewN nq).cell? ⟨bA, oA + j, none⟩ = some (.int .i64 q) := cj
                    clear ci cj r5 hb5
                    generalize World.drewN wr nq = wq at *
                    have ci7 : wq.drew.cell? ⟨bA, oA + i, none⟩ = some (.int .i64 p) := ci6
                    have cj7 : wq.drew.cell? ⟨bA, oA + j, none⟩ = some (.int .i64 q) := cj6
                    refine wp_region_held_drew (S := fun V => V.cell? ⟨bA, oA + i, none⟩ = some (.int .i64 p) ∧ V.cell? ⟨bA, oA + j, none⟩ = some (.int .i64 q) ∧ Row V w2.heap.size 4 T ∧ Below w2.heap.size w2 V) (by kernel_rfl) ⟨ci7, cj7, r6.drew, hb6.drew⟩ (fun hH => ?_)
                    try simp only [Act.put]
                    clear r6 hb6 ci6 cj6 ci7 cj7
                    generalize World.drew wq = Wd at *
                    refine wpAnyH_take (i := 0) (v := .slice (some ⟨bA, oA, none⟩) (M + 1) c1) rfl (by kernel_rfl) (by kernel_rfl) (by kernel_rfl) (fun _ _ _ h => h) (Or.inl ⟨by rfl, fun V hV => ?_⟩) hH ?_
                    · go_simp
                    simp only [List.getElem_toArray, List.getElem_cons_zero, Act.put, List.setIfInBounds_toArray, List.set_cons_zero, List.set_cons_succ]
                    refine wpAnyH_take (i := 1) (v := .int .i64 i) rfl (by kernel_rfl) (by kernel_rfl) (by kernel_rfl) (fun _ _ _ h => h) (Or.inl ⟨by rfl, fun V hV => ?_⟩) hH ?_
                    · go_simp
                    simp only [List.getElem_toArray, List.getElem_cons_zero, List.getElem_cons_succ, Act.put, List.setIfInBounds_toArray, List.set_cons_zero, List.set_cons_succ]
                    refine wpAnyH_take (i := 2) (v := .pointer (some ⟨bA, oA + i, none⟩)) rfl (by kernel_rfl) (by kernel_rfl) (by kernel_rfl) (fun _ _ _ h => h) (Or.inl ⟨by rfl, fun V hV => ?_⟩) hH ?_
                    · go_simp
                    simp only [List.getElem_toArray, List.getElem_cons_zero, List.getElem_cons_succ, Act.put, List.setIfInBounds_toArray, List.set_cons_zero, List.set_cons_succ]
                    refine wpAnyH_take (i := 3) (v := .int .i64 p) rfl (by kernel_rfl) (by kernel_rfl) (by kernel_rfl) (fun _ _ _ h => h) (Or.inl ⟨by rfl, fun V hV => ?_⟩) hH ?_
                    · have hc := hV.1
                      go_simp
                    simp only [List.getElem_toArray, List.getElem_cons_zero, List.getElem_cons_succ, Act.put, List.setIfInBounds_toArray, List.set_cons_zero, List.set_cons_succ]
                    refine wpAnyH_take (i := 4) (v := .slice (some ⟨bA, oA, none⟩) (M + 1) c1) rfl (by kernel_rfl) (by kernel_rfl) (by kernel_rfl) (fun _ _ _ h => h) (Or.inl ⟨by rfl, fun V hV => ?_⟩) hH ?_
                    · go_simp
                    simp only [List.getElem_toArray, List.getElem_cons_zero, List.getElem_cons_succ, Act.put, List.setIfInBounds_toArray, List.set_cons_zero, List.set_cons_succ]
                    refine wpAnyH_take (i := 5) (v := .int .i64 j) rfl (by kernel_rfl) (by kernel_rfl) (by kernel_rfl) (fun _ _ _ h => h) (Or.inl ⟨by rfl, fun V hV => ?_⟩) hH ?_
                    · go_simp
                    simp only [List.getElem_toArray, List.getElem_cons_zero, List.getElem_cons_succ, Act.put, List.setIfInBounds_toArray, List.set_cons_zero, List.set_cons_succ]
                    refine wpAnyH_take (i := 6) (v := .pointer (some ⟨bA, oA + j, none⟩)) rfl (by kernel_rfl) (by kernel_rfl) (by kernel_rfl) (fun _ _ _ h => h) (Or.inl ⟨by rfl, fun V hV => ?_⟩) hH ?_
                    · go_simp
                    simp only [List.getElem_toArray, List.getElem_cons_zero, List.getElem_cons_succ, Act.put, List.setIfInBounds_toArray, List.set_cons_zero, List.set_cons_succ]
                    refine wpAnyH_take (i := 7) (v := .int .i64 q) rfl (by kernel_rfl) (by kernel_rfl) (by kernel_rfl) (fun _ _ _ h => h) (Or.inl ⟨by rfl, fun V hV => ?_⟩) hH ?_
                    · have hc := hV.2.1
                      go_simp
                    simp only [List.getElem_toArray, List.getElem_cons_zero, List.getElem_cons_succ, Act.put, List.setIfInBounds_toArray, List.set_cons_zero, List.set_cons_succ]
                    refine wpAnyH_ready (rs := [8, 9]) (by kernel_rfl) (by simp) ?_
                    refine AllReadyH.cons rfl (fun K hK => ?_) (AllReadyH.cons rfl (fun K hK => ?_) AllReadyH.nil)
                    · go_simp
                      refine (reduced_any p q Wd hp.1 (by omega) (by omega)).mono ?_
                      rintro e w4 ⟨rfl, b4⟩
                      go_wp2_with fail
                      refine hK.out _ _ ⟨(b4.cell (p := ⟨bA, _, none⟩) (cell_lt hH.1)).trans hH.1, (b4.cell (p := ⟨bA, _, none⟩) (cell_lt hH.2.1)).trans hH.2.1, hH.2.2.1.below b4, hH.2.2.2.trans (b4.mono hH.2.2.2.size)⟩ (fun hH => ?_)
                      clear hK K
                      refine wpAnyH_ready (rs := [9]) (by kernel_rfl) (by simp) ?_
                      refine AllReadyH.cons rfl (fun K hK => ?_) AllReadyH.nil
                      go_simp
                      have hgz : w2.heap.size < w4.heap.size := hH.2.2.1.lt
                      have ba : Below w4.heap.size w4 (w4.alloc (.cells #[.int .i64 0, .int .i64 0] 36)) := (Below.refl _ w4).alloc (Nat.le_refl _) _
                      have r6 : Row (w4.alloc (.cells #[.int .i64 0, .int .i64 0] 36)) w4.heap.size 36 [.int .i64 0, .int .i64 0] := row_new rfl
                      refine hK.out _ _ ⟨(ba.cell (p := ⟨bA, _, none⟩) (cell_lt hH.1)).trans hH.1, (ba.cell (p := ⟨bA, _, none⟩) (cell_lt hH.2.1)).trans hH.2.1, hH.2.2.1.below ba, hH.2.2.2.trans (ba.mono hH.2.2.2.size)⟩ (fun hH => ?_)
                      clear hK K
                      refine wpAnyH_ready (rs := [10]) (by kernel_rfl) (by simp) ?_
                      refine AllReadyH.cons rfl (fun K hK => ?_) AllReadyH.nil
                      rw [if_pos (by rfl)]
                      refine wp_store_row 36 (.tmp 11) (.tmp 151) rfl (w4.heap.size) #[.int .i64 (p / Nat.gcd p q : Nat), .int .i64 (q / Nat.gcd p q : Nat)] rfl rfl 36 _ (row_heap r6) info36 rfl (by simp [Value.oneCell']) ?_
                      have r7 := r6.row [.int .i64 (p / Nat.gcd p q : Nat), .int .i64 (q / Nat.gcd p q : Nat)]
                      have hle : w2.heap.size < w4.heap.size := by exact hgz
                      have bs := fun V : World => below_row (Below.refl w2.heap.size V) (Nat.le_of_lt hle) #[.int .i64 (p / Nat.gcd p q : Nat), .int .i64 (q / Nat.gcd p q : Nat)]
                      refine hK.out _ _ ⟨((bs _).cell (p := ⟨bA, _, none⟩) hbA).trans hH.1, ((bs _).cell (p := ⟨bA, _, none⟩) hbA).trans hH.2.1, hH.2.2.1.row_far (Nat.ne_of_lt hle) _, hH.2.2.2.trans (bs _)⟩ (fun hH => ?_)
                      clear hK K bs
                      refine wpAnyH_done (by kernel_rfl) ?_ _
                      obtain ⟨ci, cj, r5, hb5⟩ := hH
                      have c7 := r7.cell 0
                      generalize World.setRow _ _ _ = wz at *
                      simp only [List.getElem_toArray, List.getElem_cons_zero, List.getElem_cons_succ, Act.put]
                      obtain ⟨d, hd⟩ : ∃ d, p / Nat.gcd p q = d := ⟨_, rfl⟩
                      obtain ⟨g, hg⟩ : ∃ g, Nat.gcd p q = g := ⟨_, rfl⟩
                      have hg1 : 1 ≤ g := by rw [← hg]; exact Nat.gcd_pos_of_pos_left _ hp.1
                      have hg2 : g ≤ p := by rw [← hg]; exact Nat.gcd_le_left _ hp.1
                      have hd0 : ¬ d = 0 := by rw [← hd]; have := Nat.div_pos (hg ▸ hg2) (hg ▸ hg1); omega
                      have hdv : p / d = g := by rw [← hd, ← hg]; exact div_gcd hp.1
                      have hgn : g ≤ n := by omega
                      have HGM := HG.out hs
                      rw [hg] at HGM
                      have ht : Int.tdiv (p : Int) (d : Int) = (g : Int) := by rw [tdiv_nat, hdv]
                      have cT : wz.cell? ⟨w2.heap.size, g, none⟩ = some (.bool true) := (r5.cell g).trans (TM.out g hgn HGM)
                      have c7' : wz.cell? ⟨w4.heap.size, 0, none⟩ = some (.int .i64 (d : Int)) := by rw [c7, hd]; rfl
                      have hgI : (g : Int) < (n : Int) + 1 := by omega
                      have hgN : g < n + 1 := by omega
                      clear c7 r7 hd hg HGM HG hdv cj hgz hle r6
                      go_wp2
                      refine wp_region_quiet_lit (by kernel_rfl) (by kernel_rfl) ?_
                      repeat go_big_quiet_step ((fail))
                      refine wpQuiet_nil ?_
                      rintro _ ⟨nq, rfl⟩
                      go_wp2
                      exact ⟨⟨j + 1, by go_num, by omega, r5.drewN nq, hb5.trans (below_drewN nq)⟩, by simp [intOf]; omega⟩
                    · go_simp
                      have hgz : w2.heap.size < Wd.heap.size := hH.2.2.1.lt
                      have ba : Below Wd.heap.size Wd (Wd.alloc (.cells #[.int .i64 0, .int .i64 0] 36)) := (Below.refl _ Wd).alloc (Nat.le_refl _) _
                      have r6 : Row (Wd.alloc (.cells #[.int .i64 0, .int .i64 0] 36)) Wd.heap.size 36 [.int .i64 0, .int .i64 0] := row_new rfl
                      refine hK.out _ _ ⟨(ba.cell (p := ⟨bA, _, none⟩) (cell_lt hH.1)).trans hH.1, (ba.cell (p := ⟨bA, _, none⟩) (cell_lt hH.2.1)).trans hH.2.1, hH.2.2.1.below ba, hH.2.2.2.trans (ba.mono hH.2.2.2.size)⟩ (fun hH => ?_)
                      clear hK K ba
                      generalize hwa : Wd.alloc (.cells #[.int .i64 0, .int .i64 0] 36) = wa at *
                      have hgw : Wd.heap.size < wa.heap.size := r6.lt
                      clear hwa
                      refine wpAnyH_ready (rs := [8]) (by kernel_rfl) (by simp) ?_
                      refine AllReadyH.cons rfl (fun K hK => ?_) AllReadyH.nil
                      go_simp
                      refine (reduced_any p q wa hp.1 (by omega) (by omega)).mono ?_
                      rintro e w4 ⟨rfl, b4⟩
                      go_wp2_with fail
                      replace r6 := r6.below b4
                      refine hK.out _ _ ⟨(b4.cell (p := ⟨bA, _, none⟩) (cell_lt hH.1)).trans hH.1, (b4.cell (p := ⟨bA, _, none⟩) (cell_lt hH.2.1)).trans hH.2.1, hH.2.2.1.below b4, hH.2.2.2.trans (b4.mono hH.2.2.2.size)⟩ (fun hH => ?_)
                      clear hK K
                      refine wpAnyH_ready (rs := [10]) (by kernel_rfl) (by simp) ?_
                      refine AllReadyH.cons rfl (fun K hK => ?_) AllReadyH.nil
                      rw [if_pos (by rfl)]
                      refine wp_store_row 36 (.tmp 11) (.tmp 151) rfl (Wd.heap.size) #[.int .i64 (p / Nat.gcd p q : Nat), .int .i64 (q / Nat.gcd p q : Nat)] rfl rfl 36 _ (row_heap r6) info36 rfl (by simp [Value.oneCell']) ?_
                      have r7 := r6.row [.int .i64 (p / Nat.gcd p q : Nat), .int .i64 (q / Nat.gcd p q : Nat)]
                      have hle : w2.heap.size < Wd.heap.size := by exact hgz
                      have bs := fun V : World => below_row (Below.refl w2.heap.size V) (Nat.le_of_lt hle) #[.int .i64 (p / Nat.gcd p q : Nat), .int .i64 (q / Nat.gcd p q : Nat)]
                      refine hK.out _ _ ⟨((bs _).cell (p := ⟨bA, _, none⟩) hbA).trans hH.1, ((bs _).cell (p := ⟨bA, _, none⟩) hbA).trans hH.2.1, hH.2.2.1.row_far (Nat.ne_of_lt hle) _, hH.2.2.2.trans (bs _)⟩ (fun hH => ?_)
                      clear hK K bs
                      refine wpAnyH_done (by kernel_rfl) ?_ _
                      obtain ⟨ci, cj, r5, hb5⟩ := hH
                      have c7 := r7.cell 0
                      generalize World.setRow _ _ _ = wz at *
                      simp only [List.getElem_toArray, List.getElem_cons_zero, List.getElem_cons_succ, Act.put]
                      obtain ⟨d, hd⟩ : ∃ d, p / Nat.gcd p q = d := ⟨_, rfl⟩
                      obtain ⟨g, hg⟩ : ∃ g, Nat.gcd p q = g := ⟨_, rfl⟩
                      have hg1 : 1 ≤ g := by rw [← hg]; exact Nat.gcd_pos_of_pos_left _ hp.1
                      have hg2 : g ≤ p := by rw [← hg]; exact Nat.gcd_le_left _ hp.1
                      have hd0 : ¬ d = 0 := by rw [← hd]; have := Nat.div_pos (hg ▸ hg2) (hg ▸ hg1); omega
                      have hdv : p / d = g := by rw [← hd, ← hg]; exact div_gcd hp.1
                      have hgn : g ≤ n := by omega
                      have HGM := HG.out hs
                      rw [hg] at HGM
                      have ht : Int.tdiv (p : Int) (d : Int) = (g : Int) := by rw [tdiv_nat, hdv]
                      have cT : wz.cell? ⟨w2.heap.size, g, none⟩ = some (.bool true) := (r5.cell g).trans (TM.out g hgn HGM)
                      have c7' : wz.cell? ⟨Wd.heap.size, 0, none⟩ = some (.int .i64 (d : Int)) := by rw [c7, hd]; rfl
                      have hgI : (g : Int) < (n : Int) + 1 := by omega
                      have hgN : g < n + 1 := by omega
                      clear c7 r7 hd hg HGM HG hdv cj hgz hle r6
                      go_wp2
                      refine wp_region_quiet_lit (by kernel_rfl) (by kernel_rfl) ?_
                      repeat go_big_quiet_step ((fail))
                      refine wpQuiet_nil ?_
                      rintro _ ⟨nq, rfl⟩
                      go_wp2
                      exact ⟨⟨j + 1, by go_num, by omega, r5.drewN nq, hb5.trans (below_drewN nq)⟩, by simp [intOf]; omega⟩
                  · have k3 : decide ((q : Int) + (p : Int) ≤ (n : Int)) = false := decide_eq_false (by omega)
                    have k4 : decide (q + p ≤ n) = false := decide_eq_false hs
                    go_wp2
                    refine wp_region_quiet_lit (by kernel_rfl) (by kernel_rfl) ?_
                    repeat go_big_quiet_step ((fail))
                    refine wpQuiet_nil ?_
                    rintro _ ⟨nq, rfl⟩
                    go_wp2
                    go_roundw
                    case rel => exact ⟨i + 1, by go_num, by omega, r5.drewN nq, hb5.trans (below_drewN nq)⟩
                    case measure => simp [intOf]; omega
                · obtain rfl : j = i := by omega
                  have k1 : decide (j < j) = false := decide_eq_false (by omega)
                  have k2 : decide ((j : Int) < (j : Int)) = false := decide_eq_false (by omega)
                  go_wp2
                  refine wp_region_quiet_lit (by kernel_rfl) (by kernel_rfl) ?_
                  repeat go_big_quiet_step ((fail))
                  refine wpQuiet_nil ?_
                  rintro _ ⟨nq, rfl⟩
                  go_wp2
                  go_roundw
                  case rel => exact ⟨j + 1, by go_num, by omega, r5.drewN nq, hb5.trans (below_drewN nq)⟩
                  case measure => simp [intOf]; omega
        · obtain rfl : i = M + 1 := by omega
          have g1 : decide (((M + 1 : Nat) : Int) < (M : Int) + 1) = false := decide_eq_false (by omega)
          have b07 := b0.trans (hb5.mono b0.size)
          clear CELL P1 P5 P6 TM
          go_wp2_with (go_at_call 24; (with_reducible refine (HAW.out _).mono ?_); rintro e w9 ⟨rfl, b9⟩; replace b07 := b07.trans (b9.mono b07.size))
          go_ret
          exact ⟨rfl, b07⟩
theorem marksPeriods_none (s : ByteArray) (w : World) (H0 : Hid (∀ V, Calls Try.prog 48 #[.string s, .int .i64 120, .int .i64 4] V fun e w' => e = .returned (.string (wS [])) ∧ Below V.heap.size V w')) :
    Calls Try.prog 11 #[.string s] w fun e w' => e = .returned (.bool true) ∧ Below w.heap.size w w' := by
  obtain ⟨j0, ji, jz0, jz1, jz2⟩ := info_parts info4
  have HAW := Lib.hid awake_any
  have b0 := Below.refl w.heap.size w
  have H1 : Hid (∀ V, Calls Try.prog 22 #[.string (wS [])] V (NewLE V [] 0)) := Lib.hid (fun V => Periods_yes [] V (fun _ h => absurd h (by simp)) (by simp))
  have hz : (wS []).size = 0 := rfl
  have hB : (wS []).toList.isEmpty = true := by rw [ba_list]; rfl
  generalize wS [] = t at *
  go_enter Try.func11, Try.ntmps11
  go_wp2_with (first
    | (go_at_call 48; (with_reducible refine (H0.out _).mono ?_); rintro e w1 ⟨rfl, b1⟩; replace b0 := b0.trans (b1.mono b0.size))
    | (go_at_call 22; ((with_reducible refine (H1.out _).mono ?_); rintro e w2 ⟨v1, rfl, o1, b2⟩); replace b0 := b0.trans (b2.mono b0.size); obtain ⟨A1, c1, rfl, -, -, -⟩ := own_intsI o1; clear o1)
    | (at_make; refine wpList_make_full _ rfl _ _ 70 rfl w2.heap.size 4 j0 (.bool false) 1 Try.underlying70 ji jz0 jz1 .i64 .i64 _ _ 1 rfl rfl rfl rfl (by rw [jz2]; omega) (by unfold maxLen; omega) (Nat.le_refl _) ?_; intro w5 o5 hg5; have hb5 : Below w2.heap.size w2 w5 := (Below.refl _ _).grown hg5 (Nat.le_refl _) (by simp); replace b0 := b0.trans (hb5.mono b0.size); clear o5 hg5))
  clear H0 H1 hb5
  go_loopw [7] (fun v wr => v = .int .i64 0 ∧ Below w.heap.size w wr) (fun _ _ => 0)
  case atStart => exact ⟨rfl, b0⟩
  case round =>
    clear b0
    obtain ⟨rfl, b0⟩ := hrel
    go_wp2
    go_loopw [8] (fun v wr => v = .int .i64 0 ∧ Below w.heap.size w wr) (fun _ _ => 0)
    case atStart => exact ⟨rfl, b0⟩
    case round =>
      clear b0
      obtain ⟨rfl, b0⟩ := hrel
      go_wp2_with (go_at_call 24; (with_reducible refine (HAW.out _).mono ?_); rintro e w9 ⟨rfl, b9⟩; replace b0 := b0.trans (b9.mono b0.size))
      go_ret
      exact ⟨rfl, b0⟩
theorem marksPeriods_any (s : ByteArray) (w : World) (hs : s.size ≤ maxLen) :
    Calls Try.prog 11 #[.string s] w fun e w' => e = .returned (.bool true) ∧ Below w.heap.size w w' := by
  unfold maxLen at hs
  obtain ⟨X, hX⟩ : ∃ X, tmW 4 120 s = X := ⟨_, rfl⟩
  have hl := tmW_len 4 120 s
  have hok : okW X := hX ▸ tmW_ok (by decide) 120 s
  rw [hX] at hl
  have H0 : Hid (∀ V, Calls Try.prog 48 #[.string s, .int .i64 120, .int .i64 4] V fun e w' => e = .returned (.string (wS X)) ∧ Below V.heap.size V w') := Lib.hid (fun V => by rw [← hX]; exact tame_any 4 120 s V (by decide) (by decide) (by omega) (by decide))
  clear hX
  rcases Nat.eq_zero_or_pos X.length with h0 | h1
  · have hnil : X = [] := List.eq_nil_of_length_eq_zero h0
    subst hnil
    exact marksPeriods_none s w H0
  · obtain ⟨hp0, hlast⟩ := perN_last h1
    have hB := not_empty h1
    refine marksPeriods_walk s (wS X) (perN X) X.length ((perN X).length - 1) w (wS_len X) hl (by omega) (by have := perN_len X; omega) hB hlast
      (fun i hi => ⟨(perN_at (x := X) (i := i) (by omega)).1, (perN_at (x := X) (i := i) (by omega)).2.1⟩) (fun i j hij hj => perN_lt hij (by omega))
      (fun i hi c hc hl => mul_mem (by omega) hc hl) (fun i j hi hj hl => gcd_mem (by omega) (by omega) hl) H0 (Lib.hid (fun V => by rw [← perL_natI]; exact Periods_yes X V hok hl))
end Go.Proofs.Ytoklnpiehbnalaa
