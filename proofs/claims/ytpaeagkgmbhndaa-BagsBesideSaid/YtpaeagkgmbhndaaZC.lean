/- Parts I J G K of the proof, in this order. -/
import Derived.Test.YtpaeagkgmbhndaaZB
import Derived.Maps.AppendAt
/- Plain facts on sets of vertices, and the order of removing. -/
namespace Go.Proofs.Ytpaeagkgmbhndaa
open Go.RowKit
theorem snocInd {α : Type} {P : List α → Prop} (h0 : P []) (h1 : ∀ xs x, P xs → P (xs ++ [x])) : ∀ xs, P xs := by
  intro xs; rw [← List.reverse_reverse xs]
  induction xs.reverse with
  | nil => exact h0
  | cons x xs ih => rw [List.reverse_cons]; exact h1 _ _ ih
theorem lt16_bits {s v : Nat} (h : s < 65536) (hv : s.testBit v = true) : v < 16 := by
  rcases Nat.lt_or_ge v 16 with h1 | h1
  · exact h1
  · have : s.testBit v = false := Nat.testBit_lt_two_pow (Nat.lt_of_lt_of_le h (Nat.pow_le_pow_right (n := 2) (by omega) h1))
    rw [this] at hv; cases hv
theorem mem_ms {s v : Nat} : v ∈ ms s ↔ v < 16 ∧ sHas s v = true := by simp [ms]
theorem mem_ms' {s v : Nat} (h : s < 65536) : v ∈ ms s ↔ sHas s v = true := by
  rw [mem_ms]; exact ⟨fun h => h.2, fun hv => ⟨lt16_bits h hv, hv⟩⟩
theorem ms_ne {s : Nat} (h : s < 65536) (h0 : s ≠ 0) : ms s ≠ [] := by
  intro e
  apply h0
  apply Nat.eq_of_testBit_eq
  intro v
  rw [Nat.zero_testBit]
  cases hv : s.testBit v
  · rfl
  · have : v ∈ ms s := (mem_ms' h).2 hv
    rw [e] at this; cases this
theorem lone_spec (gs : List Nat) (s : Nat) : ∀ xs : List Nat, (∀ v ∈ xs, nb gs s v < 16) → loneF gs s xs ≤ 16 ∧ (xs ≠ [] → loneB gs s xs ∈ xs ∧ loneF gs s xs = nb gs s (loneB gs s xs)) ∧ (∀ v ∈ xs, loneF gs s xs ≤ nb gs s v) := by
  apply snocInd
  · intro _; exact ⟨Nat.le_refl _, fun h => absurd rfl h, fun v hv => by cases hv⟩
  · intro xs x ih h
    obtain ⟨i1, i2, i3⟩ := ih fun v hv => h v (List.mem_append_left _ hv)
    have hx := h x (by simp)
    by_cases hlt : nb gs s x < loneF gs s xs
    · obtain ⟨e1, e2⟩ := lone_yes hlt
      rw [e1, e2]
      refine ⟨by omega, fun _ => ⟨by simp, rfl⟩, fun v hv => ?_⟩
      rcases List.mem_append.1 hv with hv | hv
      · have := i3 v hv; omega
      · simp at hv; subst hv; omega
    · obtain ⟨e1, e2⟩ := lone_no hlt
      rw [e1, e2]
      have hne : xs ≠ [] := by
        rintro rfl
        apply hlt
        exact hx
      obtain ⟨j1, j2⟩ := i2 hne
      refine ⟨i1, fun _ => ⟨List.mem_append_left _ j1, j2⟩, fun v hv => ?_⟩
      rcases List.mem_append.1 hv with hv | hv
      · exact i3 v hv
      · simp at hv; subst hv; omega
/-- No vertex is its own neighbor. -/
def Irr (gs : List Nat) : Prop := ∀ v, v < 16 → sHas (near gs v) v = false
theorem sAnd_bit (s t v : Nat) : (sAnd s t).testBit v = (s.testBit v && t.testBit v) := Nat.testBit_and ..
theorem pc_lt {s v : Nat} (hv : v < 16) (h : s.testBit v = false) : pc 16 s < 16 := by
  unfold pc
  have h1 : ((List.range 16).filter fun v => s.testBit v).length < (List.range 16).length := List.length_filter_lt_length_iff_exists.2 ⟨v, by simpa using hv, by simp [h]⟩
  simpa using h1
theorem nb_lt {gs : List Nat} (hI : Irr gs) {s v : Nat} (hv : v < 16) : nb gs s v < 16 := by
  apply pc_lt hv
  rw [sAnd_bit]; have := hI v hv; unfold sHas at this; rw [this]; rfl
theorem lone_mem {gs : List Nat} (hI : Irr gs) {s : Nat} (hs : s < 65536) (h0 : s ≠ 0) : loneB gs s (ms s) < 16 ∧ sHas s (loneB gs s (ms s)) = true := by
  have h := (lone_spec gs s (ms s) (fun v hv => nb_lt hI (mem_ms.1 hv).1)).2.1 (ms_ne hs h0)
  exact mem_ms.1 h.1
theorem not_bit (x j : Nat) (hx : x < 4294967296) : (4294967295 - x).testBit j = (decide (j < 32) && !x.testBit j) := by
  have e : 4294967295 - x = 2^32 - (x + 1) := by omega
  rw [e]; exact Nat.testBit_two_pow_sub_succ hx j
theorem andNot_bit (s t j : Nat) (hs : s < 65536) (ht : t < 4294967296) : (sAndNot s t).testBit j = (s.testBit j && !t.testBit j) := by
  unfold sAndNot
  rw [Nat.testBit_and, not_bit _ _ ht]
  by_cases hj : j < 32
  · simp [hj]
  · have : s.testBit j = false := Nat.testBit_lt_two_pow (Nat.lt_of_lt_of_le hs (Nat.pow_le_pow_right (n := 2) (i := 16) (by omega) (by omega)))
    rw [this]; rfl
theorem without_bit (s v j : Nat) (hs : s < 65536) (hv : v < 16) : (sWithout s v).testBit j = (s.testBit j && !decide (v = j)) := by
  have := andNot_bit s (2^v) j hs (pow_lt32 (by omega))
  unfold sAndNot at this
  unfold sWithout
  rw [this, Nat.testBit_two_pow]
theorem with_bit (s v j : Nat) : (sWith s v).testBit j = (s.testBit j || decide (v = j)) := by
  unfold sWith; rw [Nat.testBit_or, Nat.testBit_two_pow]
theorem without_lt {s v : Nat} (h : s < 65536) : sWithout s v < 65536 := Nat.lt_of_le_of_lt Nat.and_le_left h
theorem pc_without {s v : Nat} (hs : s < 65536) (hv : v < 16) (h : sHas s v = true) : pc 16 (sWithout s v) + 1 = pc 16 s := by
  unfold pc
  have e : ((List.range 16).filter fun j => (sWithout s v).testBit j) = ((List.range 16).filter fun j => s.testBit j).filter fun j => !decide (v = j) := by
    rw [List.filter_filter]; apply List.filter_congr; intro j _; rw [without_bit s v j hs hv, Bool.and_comm]
  rw [e]
  have hnd : ((List.range 16).filter fun j => s.testBit j).Nodup := List.Pairwise.filter _ List.nodup_range
  have hm : v ∈ (List.range 16).filter fun j => s.testBit j := by simp [hv]; exact h
  generalize (List.range 16).filter (fun j => s.testBit j) = L at *
  have e2 : (L.filter fun j => !decide (v = j)) = L.erase v := by
    rw [hnd.erase_eq_filter]
    apply List.filter_congr; intro j _
    by_cases hj : v = j
    · subst hj; simp
    · have : j ≠ v := fun e => hj e.symm
      simp [hj, this]
  rw [e2, List.length_erase_of_mem hm]
  have : 0 < L.length := List.length_pos_of_mem hm
  omega
theorem pc_pos {s : Nat} (hs : s < 65536) (h0 : s ≠ 0) : 0 < pc 16 s := by
  have h := ms_ne hs h0
  unfold pc; unfold ms at h
  exact List.length_pos_iff.2 h
/-- The vertices in the order in which they are removed, each with its number of neighbors then. -/
def peelL (gs : List Nat) : Nat → Nat → List (Nat × Nat)
  | 0, _ => []
  | k + 1, s => (loneB gs s (ms s), loneF gs s (ms s)) :: peelL gs k (sWithout s (loneB gs s (ms s)))
theorem peelL_len (gs : List Nat) (k s : Nat) : (peelL gs k s).length = k := by
  induction k generalizing s with
  | zero => rfl
  | succ k ih => simp [peelL, ih]
end Go.Proofs.Ytpaeagkgmbhndaa
/- Removing the loneliest vertex again and again. -/
namespace Go.Proofs.Ytpaeagkgmbhndaa
open Go.RowKit
set_option maxHeartbeats 1000000
set_option maxRecDepth 100000
theorem row_heap' {w : World} {g : Nat} {t : TypeId} {cs : List Value} (h : Row w g t cs) : w.heap[g]? = some (.cells cs.toArray t (0, 0)) := h
theorem info75k : (Try.prog.info? 75).map (·.size) = some 17 := by kernel_rfl
theorem info75' (m : Nat) {gs : List Nat} (h : Rows16 gs) : (Try.prog.info? 75).map (·.size) = some (gcells m gs).toArray.size := by
  have : (gcells m gs).toArray.size = 17 := by simp [gcells_len, h.len]
  rw [this]; exact info75k
theorem peel_any (m : Nat) (gs : List Nat) (hg : Rows16 gs) (hI : Irr gs) (hm : m ≤ 16) (w : World) :
    Calls Try.prog 54 #[.agg (gcells m gs).toArray] w fun e w' => ∃ v1 v2, e = .returned (.tuple #[v1, v2]) ∧
      w'.ownsRow w.heap.size 3 1 v1 (pc 16 (sAll m)) (intv ((peelL gs (pc 16 (sAll m)) (sAll m)).map (·.1))) ∧ w'.ownsRow w.heap.size 3 1 v2 (pc 16 (sAll m)) (intv ((peelL gs (pc 16 (sAll m)) (sAll m)).map (·.2))) ∧ Below w.heap.size w w' := by
  obtain ⟨i0, hi, hz0, hz1, hz2⟩ := info_parts info3
  have hl : (gcells m gs).length = 17 := by rw [gcells_len, hg.len]
  have g0 := gcells_0 m gs
  have tok1 : True := trivial
  have tok2 : True := trivial
  go_enter Try.func54, Try.ntmps54
  go_wp2_with (first
    | (at_make; have _t := tok1; refine wpList_make_own _ rfl _ _ 24 rfl w.heap.size 3 i0 (.int .i64 0) 1 Try.underlying24 hi hz0 hz1 .i64 .i64 _ m rfl rfl rfl (by rw [hz2]; omega) (by unfold maxLen; omega) (by simp) ?_; intro w1 hown1 hg1; clear tok1; have rr1 := (Row.new w 75 (gcells m gs)).grown hg1 (by simp); have cc1 := (rr1.cell 0).trans g0; have hs1 := hg1.size; rw [World.size_alloc] at hown1 hs1)
    | (at_make; have _t := tok2; refine wpList_make_own _ rfl _ _ 24 rfl w.heap.size 3 i0 (.int .i64 0) 1 Try.underlying24 hi hz0 hz1 .i64 .i64 _ m rfl rfl rfl (by rw [hz2]; omega) (by unfold maxLen; omega) (by omega) ?_; intro w2 hown2 hg2; clear tok2; have rr2 := rr1.grown hg2 (by simp); have cc2 := (rr2.cell 0).trans g0; have hs2 := hg2.size)
    | (refine wpList_load_row rfl 75 (.tmp 1) rfl w.heap.size rfl 75 (gcells m gs).toArray (0, 0) _ (row_heap' rr2) Try.underlying75 rfl (info75' m hg) ?_)
    | (go_at_call 58; refine (all_any m gs _ hm hg.len).mono ?_; rintro e w3 ⟨rfl, hb3⟩))
  have lt1 : w.heap.size + 1 < w1.heap.size := by
    rcases hown1.2 with ⟨h, _⟩ | ⟨g, cap, cur, h, _, h2, _⟩
    · cases h
    · injection h with h; injection h with h; injection h with h; subst h
      exact (Array.getElem?_eq_some_iff.1 h2).1
  have rr3 : Row w3 w.heap.size 75 (gcells m gs) := rr2.below hb3
  have o1 := (hown1.kept hg2 (.inr (by simp [Value.ownBlock]))).kept' hb3
  have o2 := hown2.kept' hb3
  have hB3 : Below w.heap.size w w3 := ((((Below.refl _ w).alloc (Nat.le_refl _) _).grown hg1 (by simp) (by simp)).grown hg2 (by omega) (by simp)).trans (hb3.mono (by omega))
  generalize hN : pc 16 (sAll m) = N at *
  have HNN := Lib.hid hN
  have hNl : N ≤ 16 := by rw [← hN]; exact pc_le 16 _
  have hall : sAll m < 65536 := by
    unfold sAll; have := Nat.pow_le_pow_right (n := 2) (by omega) hm; have := Nat.one_le_two_pow (n := m); omega
  clear hN cc1 cc2 rr1 rr2 hown1 hown2
  go_loopw [4, 5, 6, 7, 8] (fun a b c _ _ wr => ∃ (k s : Nat) (dn : List (Nat × Nat)) (v1 v2 : Value), a = v1 ∧ b = v2 ∧ c = .int .u32 s ∧ s < 65536 ∧ dn.length + k = N ∧ pc 16 s = k ∧ dn ++ peelL gs k s = peelL gs N (sAll m) ∧
    wr.ownsRow w.heap.size 3 1 v1 dn.length (intv (dn.map (·.1))) ∧ wr.ownsRow w.heap.size 3 1 v2 dn.length (intv (dn.map (·.2))) ∧ v1.ownBlock ≠ v2.ownBlock ∧ Row wr w.heap.size 75 (gcells m gs) ∧ Below w.heap.size w wr) (fun _ _ c _ _ _ => pc 16 (intOf c).toNat)
  case atStart => exact ⟨N, sAll m, [], _, _, rfl, rfl, rfl, hall, by simp, HNN.out, rfl, o1, o2, by simp [Value.ownBlock]; omega, rr3, hB3⟩
  case round =>
    obtain ⟨k, s, dn, v1, v2, rfl, rfl, rfl, hs, hk, hpc, heq, p1, p2, hne, rr, hB⟩ := hrel
    have HK := Lib.hid hk
    have HP := Lib.hid hpc
    have HE := Lib.hid heq
    have hdl : dn.length ≤ 16 := by omega
    clear hk hpc heq
    by_cases h0 : s = 0
    · subst h0
      have hk0 : k = 0 := by rw [← HP.out]; decide
      subst hk0
      go_wp2
      go_ret2
      have h1 : dn = peelL gs N (sAll m) := by have := HE.out; simpa [peelL] using this
      have h2 : dn.length = N := by have := HK.out; omega
      rw [HNN.out, ← h1]
      rw [h2] at p1 p2
      exact ⟨_, _, rfl, p1, p2, hB⟩
    · have hne0 : ((s:Int) != 0) = true := by simp; omega
      obtain ⟨l1, l2⟩ := lone_mem hI hs h0
      have hpw := pc_without hs l1 l2
      have hwl := without_lt (v := loneB gs s (ms s)) hs
      have HPW := Lib.hid hpw
      have HL := Lib.hid (fun w => loneliest_any m s gs hg hs w)
      have HW1 := Lib.hid (fun w => without_any s (loneB gs s (ms s)) w (Nat.lt_trans hs (by omega)) (Nat.lt_trans l1 (by omega)))
      have hle := hB.size
      have ltb := rr.lt
      clear hpw l2
      have tok1 : True := trivial
      have tok2 : True := trivial
      generalize hlb : loneB gs s (ms s) = LB at *
      generalize hlf : loneF gs s (ms s) = LF at *
      have HLB := Lib.hid hlb
      have HLF := Lib.hid hlf
      clear hlb hlf
      go_wp2_with (first
        | (refine wpList_load_row rfl 75 (.tmp 1) rfl w.heap.size rfl 75 (gcells m gs).toArray (0, 0) _ (row_heap' rr) Try.underlying75 rfl (info75' m hg) ?_)
        | (go_at_call 66; refine (HL.out _).mono ?_; rintro e w4 ⟨rfl, hb4⟩; have p1b := p1.kept' hb4; have p2b := p2.kept' hb4; have rr4 := rr.below hb4; have hs4 := hb4.size)
        | (at_builtin; have _t := tok1; refine wpList_append_own_at _ rfl (.tmp 25) (.tmp 27) 24 rfl w.heap.size 3 i0 (.int .i64 0) 1 8 Try.underlying24 hi hz0 hz1 hz2 rfl (by decide) _ _ _ rfl (p1b.alloc _) ⟨w4.heap.size, 0, none⟩ 1 1 [.int .i64 LB] rfl rfl (cell_one_new _ _ _) (by simp [Value.oneCell']) (by unfold maxLen; omega) (by omega) (by simp; omega) ?_; intro v1c w5 hn1 hgr1 _ hat1; clear tok1; obtain ⟨p2c, hne2, hB5, hrow5⟩ := app2 p1b p2b hne (by omega) hgr1 hat1; have rr5 := hrow5 _ _ _ (by decide) rr4; have hs5 := hB5.size)
        | (at_builtin; have _t := tok2; refine wpList_append_own_at _ rfl (.tmp 29) (.tmp 31) 24 rfl w.heap.size 3 i0 (.int .i64 0) 1 8 Try.underlying24 hi hz0 hz1 hz2 rfl (by decide) _ _ _ rfl (p2c.alloc _) ⟨w5.heap.size, 0, none⟩ 1 1 [.int .i64 LF] rfl rfl (cell_one_new _ _ _) (by simp [Value.oneCell']) (by unfold maxLen; omega) (by omega) (by simp; omega) ?_; intro v2c w6 hn2 hgr2 _ hat2; clear tok2; obtain ⟨p1d, hne3, hB6, hrow6⟩ := app2 p2c hn1 hne2.symm (by omega) hgr2 hat2; have rr6 := hrow6 _ _ _ (by decide) rr5)
        | (go_at_call 67; refine (HW1.out _).mono ?_; rintro e w' ⟨rfl, rfl⟩))
      obtain ⟨k', rfl⟩ : ∃ k', k = k' + 1 := ⟨k - 1, by have := HPW.out; have := HP.out; omega⟩
      go_roundw
      case rel =>
        refine ⟨k', sWithout s LB, dn ++ [(LB, LF)], v1c, v2c, rfl, rfl, rfl, hwl, ?_, ?_, ?_, ?_, ?_, hne3.symm, rr6, ((hB.trans (hb4.mono hle)).trans hB5).trans hB6⟩
        · have := HK.out; simp; omega
        · have := HPW.out; have := HP.out; omega
        · rw [← HE.out, peelL, HLB.out, HLF.out]; simp
        · have e1 : (dn ++ [(LB, LF)]).length = dn.length + 1 := by simp
          have e2 : intv ((dn ++ [(LB, LF)]).map (·.1)) = intv (dn.map (·.1)) ++ [.int .i64 LB] := by simp [intv]
          rw [e1, e2]; exact p1d
        · have e1 : (dn ++ [(LB, LF)]).length = dn.length + 1 := by simp
          have e2 : intv ((dn ++ [(LB, LF)]).map (·.2)) = intv (dn.map (·.2)) ++ [.int .i64 LF] := by simp [intv]
          rw [e1, e2]; exact hn2
      case measure => simp [intOf]; have := HPW.out; omega
end Go.Proofs.Ytpaeagkgmbhndaa
/- Reading a graph. -/
namespace Go.Proofs.Ytpaeagkgmbhndaa
open Go.RowKit
set_option maxHeartbeats 1000000
def addE (gs : List Nat) (a b : Nat) : List Nat := (gs.set a (sWith (near gs a) b)).set b (sWith (near (gs.set a (sWith (near gs a) b)) b) a)
def okE (n : Int) (gs : List Nat) (e : Int × Int) : Bool := decide (0 ≤ e.1) && (decide (e.1 < e.2) && (decide (e.2 < n) && !sHas (near gs e.1.toNat) e.2.toNat))
def rd (n : Int) : List (Int × Int) → List Nat → Option (List Nat)
  | [], gs => some gs
  | e :: es, gs => if okE n gs e then rd n es (addE gs e.1.toNat e.2.toNat) else none
def readF (n : Int) (es : List (Int × Int)) : Option (List Nat) := if 1 ≤ n ∧ n ≤ 16 then rd n es (List.replicate 16 0) else none
theorem near_set (gs : List Nat) (i j x : Nat) (hi : i < gs.length) : near (gs.set i x) j = if i = j then x else near gs j := by
  unfold near; rw [List.getElem?_set]; by_cases h : i = j
  · subst h; simp [hi]
  · simp [h]
theorem sWith_lt {s v : Nat} (h : s < 65536) (hv : v < 16) : sWith s v < 65536 := Nat.or_lt_two_pow (n := 16) h (Nat.pow_lt_pow_right (by omega) hv)
theorem Rows16.set {gs : List Nat} (h : Rows16 gs) {i v : Nat} {s : Nat} (hs : s < 65536) (hv : v < 16) : Rows16 (gs.set i (sWith s v)) := by
  refine ⟨by simp [h.len], fun j => ?_⟩
  rw [List.getElem?_set]
  have := sWith_lt hs hv
  have := h.lt j
  split
  · split
    · simpa
    · simp
  · exact h.lt j
theorem Rows16.near_lt {gs : List Nat} (h : Rows16 gs) (v : Nat) : near gs v < 65536 := h.lt v
theorem Rows16.addE {gs : List Nat} (h : Rows16 gs) {a b : Nat} (ha : a < 16) (hb : b < 16) : Rows16 (addE gs a b) := by
  unfold Ytpaeagkgmbhndaa.addE
  exact (h.set (h.near_lt a) hb).set ((h.set (h.near_lt a) hb).near_lt b) ha
theorem gcells_set (n : Nat) (gs : List Nat) (i x : Nat) : (gcells n gs).set (1 + i) (.int .u32 x) = gcells n (gs.set i x) := by
  unfold gcells; rw [Nat.add_comm]; simp [List.map_set]
theorem gcells_at (n : Nat) (gs : List Nat) (h : Rows16 gs) (i : Nat) (hi : i < 16) : (gcells n gs)[1 + i]? = some (.int .u32 (near gs i)) := by
  rw [gcells_s _ _ _ (by rw [h.len]; exact hi)]; rfl
theorem pAB_get {ps : List (Int × Int)} {k : Nat} (h : k < ps.length) : ps[k] = (pA ps k, pB ps k) := by unfold pA pB; simp [h]
theorem rd_step {n : Int} {es : List (Int × Int)} {k : Nat} (h : k < es.length) (gs : List Nat) : rd n (es.drop k) gs = if okE n gs (pA es k, pB es k) then rd n (es.drop (k + 1)) (addE gs (pA es k).toNat (pB es k).toNat) else none := by
  rw [List.drop_eq_getElem_cons h, rd, pAB_get h]
def gval (r : Option (List Nat)) (n : Int) : Value := match r with
  | some gs => .tuple #[.agg (gcells n.toNat gs).toArray, .bool true]
  | none => .tuple #[.agg (gcells 0 (List.replicate 16 0)).toArray, .bool false]
theorem gcells_zero : (gcells 0 (List.replicate 16 0)) = [.int .i64 0, .int .u32 0, .int .u32 0, .int .u32 0, .int .u32 0, .int .u32 0, .int .u32 0, .int .u32 0, .int .u32 0, .int .u32 0, .int .u32 0, .int .u32 0, .int .u32 0, .int .u32 0, .int .u32 0, .int .u32 0, .int .u32 0] := rfl
theorem rows_zero : Rows16 (List.replicate 16 0) := ⟨rfl, fun i => by rw [List.getElem?_replicate]; split <;> simp⟩
theorem row_heap {w : World} {g : Nat} {t : TypeId} {cs : List Value} (h : Row w g t cs) : w.heap[g]? = some (.cells cs.toArray t (0, 0)) := h
theorem gval_some (n : Int) (gs : List Nat) : gval (some gs) n = .tuple #[.agg (gcells n.toNat gs).toArray, .bool true] := rfl
theorem gcells_one (n : Nat) (gs : List Nat) : (gcells n gs).toArray.all (·.oneCell') = true := by
  rw [Array.all_eq_true]; intro i hi
  have : (gcells n gs).toArray[i] = (gcells n gs)[i]'(by simpa using hi) := by simp
  rw [this]
  cases i with
  | zero => rfl
  | succ i => simp [gcells]; rfl
abbrev Z16 : List Nat := List.replicate 16 0
theorem zcells_size : (gcells 0 Z16).toArray.size = 17 := rfl
theorem info75 : (Try.prog.info? 75).map (·.size) = some 17 := by kernel_rfl
theorem gcells_size (n : Nat) {gs : List Nat} (h : Rows16 gs) : (gcells n gs).toArray.size = 17 := by simp [gcells_len, h.len]
theorem zl_one : (#[.int .i64 0, .int .u32 0, .int .u32 0, .int .u32 0, .int .u32 0, .int .u32 0, .int .u32 0, .int .u32 0, .int .u32 0, .int .u32 0, .int .u32 0, .int .u32 0, .int .u32 0, .int .u32 0, .int .u32 0, .int .u32 0, .int .u32 0] : Array Value).all (·.oneCell') = true := gcells_one 0 Z16
theorem zl_size : (Try.prog.info? 75).map (·.size) = some (#[.int .i64 0, .int .u32 0, .int .u32 0, .int .u32 0, .int .u32 0, .int .u32 0, .int .u32 0, .int .u32 0, .int .u32 0, .int .u32 0, .int .u32 0, .int .u32 0, .int .u32 0, .int .u32 0, .int .u32 0, .int .u32 0, .int .u32 0] : Array Value).size := info75
/-- What readGraph hands back. -/
theorem rg_res {W : World} {k m : Nat} {gs : List Nat} {b : Bool} (hg : Rows16 gs) (tm : Array Value) (h4 : tm.getD 4 undef = .pointer (some ⟨k, 0, none⟩)) (h5 : tm.getD 5 undef = .bool b) (hr : Row W k 75 (gcells m gs)) :
    (results Try.f41 tm).run Try.prog W = .ok (.tuple #[.agg (gcells m gs).toArray, .bool b]) W := by
  have h4' : tm[4]?.getD undef = .pointer (some ⟨k, 0, none⟩) := by simpa using h4
  have h5' : tm[5]?.getD undef = .bool b := by simpa using h5
  have hi : (Try.prog.info? 75).map (·.size) = some (gcells m gs).toArray.size := by rw [gcells_size m hg]; exact info75
  have hl := run_loadVar_row (P := Try.prog) W k 75 75 (gcells m gs).toArray (0, 0) _ hr Try.underlying75 rfl hi
  simp [results, Try.results41, h4', h5', asAddr, hl]
set_option maxHeartbeats 4000000 in
theorem readGraph_any (n : Int) (A : Option Addr) (c : Nat) (es : List (Int × Int)) (w : World) (hx : es.length ≤ 1000000) (ha : PairsAt w A es) :
    Calls Try.prog 41 #[.int .i64 n, .slice A es.length c] w fun e w' => e = .returned (gval (readF n es) n) ∧ Below w.heap.size w w' := by
  by_cases hn : 1 ≤ n ∧ n ≤ 16
  · obtain ⟨m, rfl⟩ := Int.eq_ofNat_of_zero_le (show 0 ≤ n by omega)
    have h1 : decide ((m:Int) < 1) = false := by simp; omega
    have h2 : decide ((16:Int) < (m:Int)) = false := by simp; omega
    have HN := Lib.hid hn
    obtain ⟨hn1, hn2⟩ := hn
    have hRF : readF m es = rd m (es.drop 0) Z16 := by unfold readF; rw [if_pos HN.out]; rfl
    have HRF := Lib.hid hRF; clear hRF
    go_enter Try.func41, Try.ntmps41
    go_wp2
    generalize hw1 : World.alloc _ _ = w1
    have HW := Lib.hid hw1
    clear hw1
    have hb : Below w.heap.size w w1 := by rw [← HW.out]; (repeat (first | exact Below.refl _ _ | assumption | (refine Below.setCell ?_ (by first | exact Nat.le_refl _ | omega | (simp; done) | (simp; omega)) _) | (refine Below.trans ?_ (below_drewN _)) | (refine Below.drew ?_) | (refine Below.alloc ?_ (by first | exact Nat.le_refl _ | omega | (simp; done) | (simp; omega)) _) | (refine below_row ?_ (by first | exact Nat.le_refl _ | omega | (simp; done) | (simp; omega)) _)))
    have hz : w.heap.size + 2 ≤ w1.heap.size := by rw [← HW.out]; simp; try omega
    have r0 : Row w1 (w.heap.size) 75 (gcells 0 Z16) := by rw [← HW.out]; repeat (first | (refine row_new ?_; first | rfl | (simp; done)) | refine Row.alloc ?_ _)
    have r1 : Row w1 (w.heap.size + 1) 75 (gcells m Z16) := by rw [← HW.out]; repeat (first | (refine row_new ?_; first | rfl | (simp; done)) | refine Row.alloc ?_ _)
    clear HW
    go_loopw [20] (fun i wr => ∃ (k : Nat) (gs : List Nat), k ≤ es.length ∧ i = .int .i64 k ∧ Rows16 gs ∧ rd m (es.drop k) gs = readF m es ∧ Row wr (w.heap.size) 75 (gcells 0 Z16) ∧ Row wr (w.heap.size + 1) 75 (gcells m gs) ∧ Below w.heap.size w wr) (fun i _ => es.length - (intOf i).toNat)
    case atStart => exact ⟨0, _, by omega, rfl, rows_zero, HRF.out.symm, r0, r1, hb⟩
    case round =>
      obtain ⟨k, gs, hk, rfl, hg, hrd, q0, q1, hbr⟩ := hrel
      have HRD := Lib.hid hrd
      have lt0 := q0.lt
      have lt1 := q1.lt
      clear hrd
      by_cases hlt : k < es.length
      · obtain ⟨b, o, rfl, hb1, hc⟩ := ha (by omega)
        obtain ⟨c1, c2⟩ := hc k hlt
        have c1' : wr.cell? ⟨b, o + k * 2, none⟩ = some (.int .i64 (pA es k)) := (hbr.cell (p := ⟨b, _, none⟩) hb1).trans c1
        have c2' : wr.cell? ⟨b, o + k * 2 + 1, none⟩ = some (.int .i64 (pB es k)) := (hbr.cell (p := ⟨b, _, none⟩) hb1).trans c2
        have hst := rd_step hlt gs (n := m)
        have HST := Lib.hid hst
        clear hc c1 c2 hst
        cases hok : okE m gs (pA es k, pB es k)
        · have HOK := Lib.hid hok
          have hno : readF m es = none := by rw [← HRD.out, HST.out, HOK.out]; rfl
          have HNO := Lib.hid hno
          clear hok hno HST HRD
          generalize hA : pA es k = x at *
          generalize hB : pB es k = y at *
          clear hA hB
          cases g1 : decide (x < 0)
          · cases g2 : decide (y ≤ x)
            · cases g3 : decide ((m:Int) ≤ y)
              · have G1 := of_decide_eq_false g1
                have G2 := of_decide_eq_false g2
                have G3 := of_decide_eq_false g3
                obtain ⟨a', rfl⟩ := Int.eq_ofNat_of_zero_le (show 0 ≤ x by omega)
                obtain ⟨b', rfl⟩ := Int.eq_ofNat_of_zero_le (show 0 ≤ y by omega)
                clear g1 g2 g3
                have e1 : decide ((a':Int) < 0) = false := by simp
                have e2 : decide (b' ≤ a') = false := by simp; omega
                have e3 : decide (m ≤ b') = false := by simp; omega
                have ha16 : a' < 16 := by omega
                have hb16 : b' < 16 := by omega
                have q1c : wr.cell? ⟨w.heap.size + 1, 1 + a', none⟩ = some (.int .u32 (near gs a')) := by rw [q1.cell, gcells_at _ _ hg _ ha16]
                have hh : sHas (near gs a') b' = true := by
                  have := HOK.out
                  unfold okE at this
                  simp only [Int.toNat_natCast] at this
                  have t1 : decide (0 ≤ (a':Int)) = true := by simp
                  have t2 : decide ((a':Int) < b') = true := by simp; omega
                  have t3 : decide ((b':Int) < m) = true := by simp; omega
                  rw [t1, t2, t3] at this
                  simpa using this
                have HH := Lib.hid hh
                clear hh
                have HC : ∀ w, Calls Try.prog 56 #[.int .u32 (near gs a'), .int .i64 b'] w fun e w' => e = .returned (.bool true) ∧ w = w' := fun w => (has_any _ _ w (Nat.lt_trans (hg.near_lt a') (by omega)) (by omega)).mono fun _ _ ⟨h1, h2⟩ => ⟨by rw [h1, HH.out], h2⟩
                have HC' := Lib.hid HC
                clear HC HOK G1 G2 G3
                go_wp2
                refine wp_region_quiet_lit (by kernel_rfl) (by kernel_rfl) ?_
                repeat go_big_quiet_step ((go_at_call 56; exact quiet_same (HC'.out _)))
                refine wpQuiet_nil ?_
                rintro _ ⟨nq, rfl⟩
                go_wp2_with (refine wpList_store_row rfl 75 (.tmp 4) (.tmp 50) rfl w.heap.size (gcells 0 Z16).toArray rfl rfl 75 (gcells 0 Z16).toArray (row_heap (by repeat (first | with_reducible assumption | (with_reducible refine row_new ?_; first | (with_reducible rfl) | (simp; done)) | with_reducible refine Row.alloc ?_ _ | with_reducible refine Row.drewN ?_ _ | with_reducible refine Row.drew ?_))) info75 rfl (gcells_one 0 Z16) ?_)
                refine bodyPost_ret (v := gval none 0) (rg_res rows_zero _ rfl rfl (?_ : Row _ _ 75 (gcells 0 Z16))) rfl ⟨by rw [HNO.out]; rfl, ?_⟩
                · refine Row.row (t := 75) (cs := gcells 0 Z16) ?_ (gcells 0 Z16)
                  (repeat (first | with_reducible assumption | (with_reducible refine row_new ?_; first | (with_reducible rfl) | (simp; done)) | with_reducible refine Row.alloc ?_ _ | with_reducible refine Row.drewN ?_ _ | with_reducible refine Row.drew ?_))
                · (repeat (first | exact Below.refl _ _ | assumption | (refine Below.setCell ?_ (by first | exact Nat.le_refl _ | omega | (simp; done) | (simp; omega)) _) | (refine Below.trans ?_ (below_drewN _)) | (refine Below.drew ?_) | (refine Below.alloc ?_ (by first | exact Nat.le_refl _ | omega | (simp; done) | (simp; omega)) _) | (refine below_row ?_ (by first | exact Nat.le_refl _ | omega | (simp; done) | (simp; omega)) _)))
              · clear HOK
                go_wp2
                refine wp_region_quiet_lit (by kernel_rfl) (by kernel_rfl) ?_
                repeat go_big_quiet_step ((fail))
                refine wpQuiet_nil ?_
                rintro _ ⟨nq, rfl⟩
                go_wp2_with (refine wpList_store_row rfl 75 (.tmp 4) (.tmp 50) rfl w.heap.size (gcells 0 Z16).toArray rfl rfl 75 (gcells 0 Z16).toArray (row_heap (by repeat (first | with_reducible assumption | (with_reducible refine row_new ?_; first | (with_reducible rfl) | (simp; done)) | with_reducible refine Row.alloc ?_ _ | with_reducible refine Row.drewN ?_ _ | with_reducible refine Row.drew ?_))) info75 rfl (gcells_one 0 Z16) ?_)
                refine bodyPost_ret (v := gval none 0) (rg_res rows_zero _ rfl rfl (?_ : Row _ _ 75 (gcells 0 Z16))) rfl ⟨by rw [HNO.out]; rfl, ?_⟩
                · refine Row.row (t := 75) (cs := gcells 0 Z16) ?_ (gcells 0 Z16)
                  (repeat (first | with_reducible assumption | (with_reducible refine row_new ?_; first | (with_reducible rfl) | (simp; done)) | with_reducible refine Row.alloc ?_ _ | with_reducible refine Row.drewN ?_ _ | with_reducible refine Row.drew ?_))
                · (repeat (first | exact Below.refl _ _ | assumption | (refine Below.setCell ?_ (by first | exact Nat.le_refl _ | omega | (simp; done) | (simp; omega)) _) | (refine Below.trans ?_ (below_drewN _)) | (refine Below.drew ?_) | (refine Below.alloc ?_ (by first | exact Nat.le_refl _ | omega | (simp; done) | (simp; omega)) _) | (refine below_row ?_ (by first | exact Nat.le_refl _ | omega | (simp; done) | (simp; omega)) _)))
            · clear HOK
              go_wp2
              refine wp_region_quiet_lit (by kernel_rfl) (by kernel_rfl) ?_
              repeat go_big_quiet_step ((fail))
              refine wpQuiet_nil ?_
              rintro _ ⟨nq, rfl⟩
              go_wp2_with (refine wpList_store_row rfl 75 (.tmp 4) (.tmp 50) rfl w.heap.size (gcells 0 Z16).toArray rfl rfl 75 (gcells 0 Z16).toArray (row_heap (by repeat (first | with_reducible assumption | (with_reducible refine row_new ?_; first | (with_reducible rfl) | (simp; done)) | with_reducible refine Row.alloc ?_ _ | with_reducible refine Row.drewN ?_ _ | with_reducible refine Row.drew ?_))) info75 rfl (gcells_one 0 Z16) ?_)
              refine bodyPost_ret (v := gval none 0) (rg_res rows_zero _ rfl rfl (?_ : Row _ _ 75 (gcells 0 Z16))) rfl ⟨by rw [HNO.out]; rfl, ?_⟩
              · refine Row.row (t := 75) (cs := gcells 0 Z16) ?_ (gcells 0 Z16)
                (repeat (first | with_reducible assumption | (with_reducible refine row_new ?_; first | (with_reducible rfl) | (simp; done)) | with_reducible refine Row.alloc ?_ _ | with_reducible refine Row.drewN ?_ _ | with_reducible refine Row.drew ?_))
              · (repeat (first | exact Below.refl _ _ | assumption | (refine Below.setCell ?_ (by first | exact Nat.le_refl _ | omega | (simp; done) | (simp; omega)) _) | (refine Below.trans ?_ (below_drewN _)) | (refine Below.drew ?_) | (refine Below.alloc ?_ (by first | exact Nat.le_refl _ | omega | (simp; done) | (simp; omega)) _) | (refine below_row ?_ (by first | exact Nat.le_refl _ | omega | (simp; done) | (simp; omega)) _)))
          · clear HOK
            go_wp2
            refine wp_region_quiet_lit (by kernel_rfl) (by kernel_rfl) ?_
            repeat go_big_quiet_step ((fail))
            refine wpQuiet_nil ?_
            rintro _ ⟨nq, rfl⟩
            go_wp2_with (refine wpList_store_row rfl 75 (.tmp 4) (.tmp 50) rfl w.heap.size (gcells 0 Z16).toArray rfl rfl 75 (gcells 0 Z16).toArray (row_heap (by repeat (first | with_reducible assumption | (with_reducible refine row_new ?_; first | (with_reducible rfl) | (simp; done)) | with_reducible refine Row.alloc ?_ _ | with_reducible refine Row.drewN ?_ _ | with_reducible refine Row.drew ?_))) info75 rfl (gcells_one 0 Z16) ?_)
            refine bodyPost_ret (v := gval none 0) (rg_res rows_zero _ rfl rfl (?_ : Row _ _ 75 (gcells 0 Z16))) rfl ⟨by rw [HNO.out]; rfl, ?_⟩
            · refine Row.row (t := 75) (cs := gcells 0 Z16) ?_ (gcells 0 Z16)
              (repeat (first | with_reducible assumption | (with_reducible refine row_new ?_; first | (with_reducible rfl) | (simp; done)) | with_reducible refine Row.alloc ?_ _ | with_reducible refine Row.drewN ?_ _ | with_reducible refine Row.drew ?_))
            · (repeat (first | exact Below.refl _ _ | assumption | (refine Below.setCell ?_ (by first | exact Nat.le_refl _ | omega | (simp; done) | (simp; omega)) _) | (refine Below.trans ?_ (below_drewN _)) | (refine Below.drew ?_) | (refine Below.alloc ?_ (by first | exact Nat.le_refl _ | omega | (simp; done) | (simp; omega)) _) | (refine below_row ?_ (by first | exact Nat.le_refl _ | omega | (simp; done) | (simp; omega)) _)))
        · have HOK := Lib.hid hok
          unfold okE at hok
          simp only [Bool.and_eq_true, decide_eq_true_eq, Bool.not_eq_true'] at hok
          obtain ⟨g1, g2, g3, g4⟩ := hok
          generalize hA : pA es k = x at *
          generalize hB : pB es k = y at *
          obtain ⟨a', rfl⟩ := Int.eq_ofNat_of_zero_le g1
          obtain ⟨b', rfl⟩ := Int.eq_ofNat_of_zero_le (show 0 ≤ y by omega)
          simp only [Int.toNat_natCast] at g4
          clear hA hB
          have e1 : decide ((a':Int) < 0) = false := by simp
          have e2 : decide (b' ≤ a') = false := by simp; omega
          have e3 : decide (m ≤ b') = false := by simp; omega
          have ha16 : a' < 16 := by omega
          have hb16 : b' < 16 := by omega
          have q1c : wr.cell? ⟨w.heap.size + 1, 1 + a', none⟩ = some (.int .u32 (near gs a')) := by rw [q1.cell, gcells_at _ _ hg _ ha16]
          have q1f := q1.free (1 + a')
          have q1f2 := q1.free (1 + b')
          have q2 := q1.set (1 + a') (.int .u32 (sWith (near gs a') b'))
          rw [gcells_set] at q2
          have hg2 := hg.set (i := a') (hg.near_lt a') hb16
          have q2c : (wr.setCell ⟨w.heap.size + 1, 1 + a', none⟩ (.int .u32 (sWith (near gs a') b'))).cell? ⟨w.heap.size + 1, 1 + b', none⟩ = some (.int .u32 (near (gs.set a' (sWith (near gs a') b')) b')) := by rw [q2.cell, gcells_at _ _ hg2 _ hb16]
          have HH := Lib.hid g4
          clear g4 g1 g2 g3 q2
          have HC : ∀ w, Calls Try.prog 56 #[.int .u32 (near gs a'), .int .i64 b'] w fun e w' => e = .returned (.bool false) ∧ w = w' := fun w => (has_any _ _ w (Nat.lt_trans (hg.near_lt a') (by omega)) (by omega)).mono fun _ _ ⟨h1, h2⟩ => ⟨by rw [h1, HH.out], h2⟩
          have HC' := Lib.hid HC
          have HD := Lib.hid (fun w => with_any (near gs a') b' w (Nat.lt_trans (hg.near_lt a') (by omega)) (by omega))
          have HE := Lib.hid (fun w => with_any (near (gs.set a' (sWith (near gs a') b')) b') a' w (Nat.lt_trans (hg2.near_lt b') (by omega)) (by omega))
          clear HC
          go_wp2
          refine wp_region_quiet_lit (by kernel_rfl) (by kernel_rfl) ?_
          repeat go_big_quiet_step ((go_at_call 56; exact quiet_same (HC'.out _)))
          refine wpQuiet_nil ?_
          rintro _ ⟨nq, rfl⟩
          go_wp2
          refine wp_region_quiet_tail 12 (by kernel_rfl) (by kernel_rfl) ?_
          simp only [List.take_succ_cons, List.take_zero, List.drop_succ_cons, List.drop_zero]
          repeat go_big_quiet_step ((go_at_call 57; first | exact quiet_same (HD.out _) | exact quiet_same2 (HD.out _)))
          refine wpQuiet_nil ?_
          rintro _ ⟨nq, rfl⟩
          go_wp2
          generalize hw2 : World.setCell _ _ _ = W2
          have p1 : Row W2 (w.heap.size + 1) 75 (gcells m (gs.set a' (sWith (near gs a') b'))) := by
            rw [← hw2, ← gcells_set]; exact ((q1.alloc _).drewN _).set _ _
          have p0 : Row W2 w.heap.size 75 (gcells 0 Z16) := by
            rw [← hw2]; exact ((q0.alloc _).drewN _).far (by simp) _
          have pe : Row W2 wr.heap.size 67 [.int .i64 a', .int .i64 b'] := by
            rw [← hw2]; exact ((Row.new wr 67 [.int .i64 a', .int .i64 b']).drewN _).far (by simp; omega) _
          have hb2 : Below w.heap.size w W2 := by
            rw [← hw2]; (repeat (first | exact Below.refl _ _ | assumption | (refine Below.setCell ?_ (by first | exact Nat.le_refl _ | omega | (simp; done) | (simp; omega)) _) | (refine Below.trans ?_ (below_drewN _)) | (refine Below.drew ?_) | (refine Below.alloc ?_ (by first | exact Nat.le_refl _ | omega | (simp; done) | (simp; omega)) _) | (refine below_row ?_ (by first | exact Nat.le_refl _ | omega | (simp; done) | (simp; omega)) _)))
          clear hw2
          obtain ⟨⟨u0, u1⟩, _⟩ := pe.cells2
          have p1c : W2.cell? ⟨w.heap.size + 1, 1 + b', none⟩ = some (.int .u32 (near (gs.set a' (sWith (near gs a') b')) b')) := by rw [p1.cell, gcells_at _ _ hg2 _ hb16]
          have p1f := p1.free (1 + b')
          clear q1c q1f q1f2 q2c c1' c2'
          refine wp_region_quiet_tail 12 (by kernel_rfl) (by kernel_rfl) ?_
          simp only [List.take_succ_cons, List.take_zero, List.drop_succ_cons, List.drop_zero]
          repeat go_big_quiet_step ((go_at_call 57; first | exact quiet_same (HE.out _) | exact quiet_same2 (HE.out _)))
          refine wpQuiet_nil ?_
          rintro _ ⟨nq, rfl⟩
          go_wp2
          go_roundw
          case rel =>
            refine ⟨k + 1, addE gs a' b', by omega, by go_num, hg.addE ha16 hb16, ?_, (p0.drewN nq).far (by simp) _, ?_, ?_⟩
            · have h5 := HST.out
              rw [HOK.out] at h5
              rw [← HRD.out, h5]; rfl
            · have h6 := (p1.drewN nq).set (1 + b') (.int .u32 (sWith (near (gs.set a' (sWith (near gs a') b')) b') a'))
              rw [gcells_set] at h6; exact h6
            · (repeat (first | exact Below.refl _ _ | assumption | (refine Below.setCell ?_ (by first | exact Nat.le_refl _ | omega | (simp; done) | (simp; omega)) _) | (refine Below.trans ?_ (below_drewN _)) | (refine Below.drew ?_) | (refine Below.alloc ?_ (by first | exact Nat.le_refl _ | omega | (simp; done) | (simp; omega)) _) | (refine below_row ?_ (by first | exact Nat.le_refl _ | omega | (simp; done) | (simp; omega)) _)))
          case measure => simp [intOf]; omega
      · obtain rfl : k = es.length := by omega
        have hyes : readF m es = some gs := by rw [← HRD.out, List.drop_length]; rfl
        have HY := Lib.hid hyes
        clear hyes
        go_wp2_with (first
          | (refine wpList_load_row rfl 75 (.tmp 6) rfl (w.heap.size + 1) rfl 75 (gcells m gs).toArray (0, 0) _ (row_heap (by repeat (first | with_reducible assumption | (with_reducible refine row_new ?_; first | (with_reducible rfl) | (simp; done)) | with_reducible refine Row.alloc ?_ _ | with_reducible refine Row.drewN ?_ _ | with_reducible refine Row.drew ?_))) Try.underlying75 rfl (by rw [gcells_size m hg]; exact info75) ?_)
          | (refine wpList_store_row rfl 75 (.tmp 4) (.tmp 76) rfl w.heap.size (gcells m gs).toArray rfl rfl 75 (gcells 0 Z16).toArray (row_heap (by repeat (first | with_reducible assumption | (with_reducible refine row_new ?_; first | (with_reducible rfl) | (simp; done)) | with_reducible refine Row.alloc ?_ _ | with_reducible refine Row.drewN ?_ _ | with_reducible refine Row.drew ?_))) (by rw [gcells_size m hg]; exact info75) (by rw [gcells_size m hg]; rfl) (gcells_one m gs) ?_))
        refine bodyPost_ret (v := gval (some gs) m) (rg_res hg _ rfl rfl (?_ : Row _ _ 75 (gcells m gs))) rfl ⟨by rw [HY.out], ?_⟩
        · refine Row.row (t := 75) (cs := gcells 0 Z16) ?_ (gcells m gs)
          (repeat (first | with_reducible assumption | (with_reducible refine row_new ?_; first | (with_reducible rfl) | (simp; done)) | with_reducible refine Row.alloc ?_ _ | with_reducible refine Row.drewN ?_ _ | with_reducible refine Row.drew ?_))
        · (repeat (first | exact Below.refl _ _ | assumption | (refine Below.setCell ?_ (by first | exact Nat.le_refl _ | omega | (simp; done) | (simp; omega)) _) | (refine Below.trans ?_ (below_drewN _)) | (refine Below.drew ?_) | (refine Below.alloc ?_ (by first | exact Nat.le_refl _ | omega | (simp; done) | (simp; omega)) _) | (refine below_row ?_ (by first | exact Nat.le_refl _ | omega | (simp; done) | (simp; omega)) _)))
  · have hno : readF n es = none := by unfold readF; rw [if_neg hn]
    have HNO := Lib.hid hno
    clear hno
    cases h1 : decide (n < 1) <;> cases h2 : decide ((16:Int) < n)
    · simp at h1 h2; omega
    all_goals
      clear hn
      go_enter Try.func41, Try.ntmps41
      go_wp2_with (refine wpList_store_row rfl 75 (.tmp 4) (.tmp 17) rfl w.heap.size #[.int .i64 0, .int .u32 0, .int .u32 0, .int .u32 0, .int .u32 0, .int .u32 0, .int .u32 0, .int .u32 0, .int .u32 0, .int .u32 0, .int .u32 0, .int .u32 0, .int .u32 0, .int .u32 0, .int .u32 0, .int .u32 0, .int .u32 0] rfl rfl 75 #[.int .i64 0, .int .u32 0, .int .u32 0, .int .u32 0, .int .u32 0, .int .u32 0, .int .u32 0, .int .u32 0, .int .u32 0, .int .u32 0, .int .u32 0, .int .u32 0, .int .u32 0, .int .u32 0, .int .u32 0, .int .u32 0, .int .u32 0] (row_heap (by repeat (first | with_reducible assumption | (with_reducible refine row_new ?_; first | (with_reducible rfl) | (simp; done)) | with_reducible refine Row.alloc ?_ _ | with_reducible refine Row.drewN ?_ _ | with_reducible refine Row.drew ?_))) zl_size rfl zl_one ?_)
      refine bodyPost_ret (v := gval none 0) (rg_res rows_zero _ rfl rfl (?_ : Row _ _ 75 [.int .i64 0, .int .u32 0, .int .u32 0, .int .u32 0, .int .u32 0, .int .u32 0, .int .u32 0, .int .u32 0, .int .u32 0, .int .u32 0, .int .u32 0, .int .u32 0, .int .u32 0, .int .u32 0, .int .u32 0, .int .u32 0, .int .u32 0])) rfl ⟨by rw [HNO.out]; rfl, ?_⟩
      · refine Row.row (t := 75) (cs := [.int .i64 0, .int .u32 0, .int .u32 0, .int .u32 0, .int .u32 0, .int .u32 0, .int .u32 0, .int .u32 0, .int .u32 0, .int .u32 0, .int .u32 0, .int .u32 0, .int .u32 0, .int .u32 0, .int .u32 0, .int .u32 0, .int .u32 0]) ?_ [.int .i64 0, .int .u32 0, .int .u32 0, .int .u32 0, .int .u32 0, .int .u32 0, .int .u32 0, .int .u32 0, .int .u32 0, .int .u32 0, .int .u32 0, .int .u32 0, .int .u32 0, .int .u32 0, .int .u32 0, .int .u32 0, .int .u32 0]
        (repeat (first | with_reducible assumption | (with_reducible refine row_new ?_; first | (with_reducible rfl) | (simp; done)) | with_reducible refine Row.alloc ?_ _ | with_reducible refine Row.drewN ?_ _ | with_reducible refine Row.drew ?_))
      · (repeat (first | exact Below.refl _ _ | assumption | (refine Below.setCell ?_ (by first | exact Nat.le_refl _ | omega | (simp; done) | (simp; omega)) _) | (refine Below.trans ?_ (below_drewN _)) | (refine Below.drew ?_) | (refine Below.alloc ?_ (by first | exact Nat.le_refl _ | omega | (simp; done) | (simp; omega)) _) | (refine below_row ?_ (by first | exact Nat.le_refl _ | omega | (simp; done) | (simp; omega)) _)))
end Go.Proofs.Ytpaeagkgmbhndaa
/- Plain facts on graphs that were read, and on the order of removing. -/
namespace Go.Proofs.Ytpaeagkgmbhndaa
open Go.RowKit
theorem irr_zero : Irr Z16 := by
  intro v _; unfold near sHas; rw [List.getElem?_replicate]; split <;> simp
theorem Rows16.irr_set {gs : List Nat} (h : Rows16 gs) (hI : Irr gs) {a b : Nat} (ha : a < 16) (hne : a ≠ b) : Irr (gs.set a (sWith (near gs a) b)) := by
  intro v hv
  rw [near_set _ _ _ _ (by rw [h.len]; exact ha)]
  by_cases e : a = v
  · subst e
    rw [if_pos rfl]
    have := hI a ha
    unfold sHas at *
    rw [with_bit, this]; simp; exact fun e => hne e.symm
  · rw [if_neg e]; exact hI v hv
theorem irr_add {gs : List Nat} (h : Rows16 gs) (hI : Irr gs) {a b : Nat} (ha : a < 16) (hb : b < 16) (hne : a ≠ b) : Irr (addE gs a b) := by
  unfold addE
  exact (h.set (h.near_lt a) hb).irr_set (h.irr_set hI ha hne) hb (fun e => hne e.symm)
theorem rd_ok {n : Nat} (hn : n ≤ 16) : ∀ (es : List (Int × Int)) (gs gs' : List Nat), Rows16 gs → Irr gs → rd n es gs = some gs' → Rows16 gs' ∧ Irr gs' := by
  intro es
  induction es with
  | nil => intro gs gs' h hI he; simp [rd] at he; subst he; exact ⟨h, hI⟩
  | cons e es ih =>
    intro gs gs' h hI he
    rw [rd] at he
    split at he
    · rename_i hok
      unfold okE at hok
      simp only [Bool.and_eq_true, decide_eq_true_eq] at hok
      obtain ⟨g1, g2, g3, _⟩ := hok
      exact ih _ _ (h.addE (by omega) (by omega)) (irr_add h hI (by omega) (by omega) (by omega)) he
    · cases he
theorem readF_ok {n : Int} {es : List (Int × Int)} {gs : List Nat} (h : readF n es = some gs) : 1 ≤ n ∧ n ≤ 16 ∧ Rows16 gs ∧ Irr gs := by
  unfold readF at h
  split at h
  · rename_i hn
    obtain ⟨m, rfl⟩ := Int.eq_ofNat_of_zero_le (show 0 ≤ n by omega)
    obtain ⟨h1, h2⟩ := rd_ok (by omega) es _ _ rows_zero irr_zero h
    exact ⟨hn.1, hn.2, h1, h2⟩
  · cases h
theorem all_bit (m v : Nat) : (sAll m).testBit v = decide (v < m) := by unfold sAll; exact Nat.testBit_two_pow_sub_one m v
theorem all_lt {m : Nat} (hm : m ≤ 16) : sAll m < 65536 := by
  unfold sAll; have := Nat.pow_le_pow_right (n := 2) (by omega) hm; have := Nat.one_le_two_pow (n := m); omega
theorem pc_all {m : Nat} (hm : m ≤ 16) : pc 16 (sAll m) = m := by
  unfold pc
  simp only [all_bit]
  have : ∀ m, m ≤ 16 → ((List.range 16).filter fun v => decide (v < m)).length = m := by decide
  exact this m hm
theorem peelL_mem {gs : List Nat} (hI : Irr gs) : ∀ (k s : Nat), s < 65536 → pc 16 s = k → ∀ p ∈ peelL gs k s, p.1 < 16 ∧ sHas s p.1 = true ∧ p.2 < 16 := by
  intro k
  induction k with
  | zero => intro s _ _ p hp; cases hp
  | succ k ih =>
    intro s hs hk p hp
    have h0 : s ≠ 0 := by rintro rfl; have : pc 16 0 = 0 := by decide
                          omega
    obtain ⟨l1, l2⟩ := lone_mem hI hs h0
    rw [peelL] at hp
    rcases List.mem_cons.1 hp with rfl | hp
    · have h3 := (lone_spec gs s (ms s) (fun v hv => nb_lt hI (mem_ms.1 hv).1)).2.1 (ms_ne hs h0)
      refine ⟨l1, l2, ?_⟩
      show loneF gs s (ms s) < 16
      rw [h3.2]; exact nb_lt hI l1
    · have hp2 := pc_without hs l1 l2
      obtain ⟨q1, q2, q3⟩ := ih _ (without_lt hs) (by omega) p hp
      refine ⟨q1, ?_, q3⟩
      unfold sHas at *
      rw [without_bit s _ _ hs l1] at q2
      simp at q2; exact q2.1
def natI (xs : List Nat) : List Int := xs.map fun x : Nat => (x : Int)
def getn (xs : List Nat) (k : Nat) : Nat := xs.getD k 0
theorem natI_len (xs : List Nat) : (natI xs).length = xs.length := by simp [natI]
theorem geti_natI (xs : List Nat) (k : Nat) : geti (natI xs) k = (getn xs k : Int) := by
  unfold geti natI getn
  rw [List.getD_eq_getElem?_getD, List.getD_eq_getElem?_getD, List.getElem?_map]
  cases xs[k]? <;> rfl
theorem getn_mem {xs : List Nat} {k : Nat} (h : k < xs.length) : getn xs k ∈ xs := by
  unfold getn; rw [List.getD_eq_getElem?_getD, List.getElem?_eq_getElem h]; exact List.getElem_mem h
theorem getn_eq {xs : List Nat} {k : Nat} (h : k < xs.length) : getn xs k = xs[k] := by
  unfold getn; rw [List.getD_eq_getElem?_getD, List.getElem?_eq_getElem h]; rfl
theorem push_modify (h : Array Obj) (o : Obj) (f : Obj → Obj) : (h.push o).modify h.size f = h.push (f o) := by
  apply Array.ext_getElem?
  intro i
  rw [Array.getElem?_modify, Array.getElem?_push, Array.getElem?_push]
  by_cases e : i = h.size
  · subst e; simp
  · have : ¬ h.size = i := fun e' => e e'.symm
    simp [e, this]
theorem setRow_alloc (w : World) (a b : Array Value) (t : TypeId) : (w.alloc (.cells a t)).setRow w.heap.size b = w.alloc (.cells b t) := by
  show ({ w with heap := (w.heap.push (.cells a t)).modify w.heap.size _ } : World) = { w with heap := w.heap.push (.cells b t) }
  rw [push_modify]
theorem info75g {m : Nat} {gs : List Nat} (h : Rows16 gs) : (Try.prog.info? 75).map (·.size) = some (gcells m gs).toArray.size := by
  rw [gcells_size m h]; exact info75
theorem size75g {m : Nat} {gs : List Nat} (h : Rows16 gs) : (#[.int .i64 0, .int .u32 0, .int .u32 0, .int .u32 0, .int .u32 0, .int .u32 0, .int .u32 0, .int .u32 0, .int .u32 0, .int .u32 0, .int .u32 0, .int .u32 0, .int .u32 0, .int .u32 0, .int .u32 0, .int .u32 0, .int .u32 0] : Array Value).size = (gcells m gs).toArray.size := by rw [gcells_size m h]; rfl
theorem rg_none {n : Int} {A : Option Addr} {c : Nat} {es : List (Int × Int)} {w : World} (hx : es.length ≤ 1000000) (ha : PairsAt w A es) (h : readF n es = none) :
    Calls Try.prog 41 #[.int .i64 n, .slice A es.length c] w fun e w' => e = .returned (.tuple #[.agg (gcells 0 Z16).toArray, .bool false]) ∧ Below w.heap.size w w' :=
  (readGraph_any n A c es w hx ha).mono fun e w' ⟨h1, h2⟩ => ⟨by rw [h1, h]; rfl, h2⟩
theorem rg_some {m : Nat} {A : Option Addr} {c : Nat} {es : List (Int × Int)} {w : World} {gs : List Nat} (hx : es.length ≤ 1000000) (ha : PairsAt w A es) (h : readF m es = some gs) :
    Calls Try.prog 41 #[.int .i64 m, .slice A es.length c] w fun e w' => e = .returned (.tuple #[.agg (gcells m gs).toArray, .bool true]) ∧ Below w.heap.size w w' :=
  (readGraph_any m A c es w hx ha).mono fun e w' ⟨h1, h2⟩ => ⟨by rw [h1, h]; rfl, h2⟩
/-- A row of numbers that the call owns, read. -/
theorem own_ints {w : World} {b n : Nat} {v : Value} {xs : List Nat} (h : w.ownsRow b 3 1 v n (intv xs)) : ∃ A c, v = .slice A xs.length c ∧ n = xs.length ∧ IntsAt w A (natI xs) := by
  have hl : xs.length = n := by have := h.1; simpa [intv] using this
  subst hl
  rcases h.2 with ⟨rfl, h0⟩ | ⟨g, cap, cur, rfl, hb, hg, hc, _, hs, ht⟩
  · refine ⟨none, 0, by rw [h0], rfl, fun hp => ?_⟩
    rw [natI_len] at hp; omega
  · refine ⟨some ⟨g, 0, none⟩, cap, rfl, rfl, fun _ => ⟨g, 0, rfl, (Array.getElem?_eq_some_iff.1 hg).1, fun i hi => ?_⟩⟩
    rw [natI_len] at hi
    rw [cell_of_row w g _ _ _ _ hg, geti_natI]
    have e1 : cur.toList[0 + i]? = (intv xs)[i]? := by rw [← ht, List.getElem?_take, if_pos (by omega), Nat.zero_add]
    rw [← Array.getElem?_toList, e1]
    unfold intv
    rw [List.getElem?_map, List.getElem?_eq_getElem hi, getn_eq hi]; rfl
end Go.Proofs.Ytpaeagkgmbhndaa
