/- Parts AE AF AG AH AI of the proof, in this order. -/
import Derived.Test.YtpaeagkgmbhndaaZF
import Derived.Test.YtpaeagkgmbhndaaZD
import Derived.Test.YtpaeagkgmbhndaaZE
/- Listing shares. -/
namespace Go.Proofs.Ytpaeagkgmbhndaa
open Go.RowKit
set_option maxHeartbeats 1000000
set_option maxRecDepth 100000
def cellsF (n : Nat) (f : Nat → Int) : List Value := (List.range n).map fun j => Value.int .i64 (f j)
theorem cellsF_at {n : Nat} (f : Nat → Int) {j : Nat} (h : j < n) : (cellsF n f)[j]? = some (.int .i64 (f j)) := by
  unfold cellsF; rw [List.getElem?_map, List.getElem?_range h]; rfl
theorem cellsF_set {n : Nat} {f : Nat → Int} {v : Nat} (x : Int) : (cellsF n f).set v (.int .i64 x) = cellsF n (upd f v x) := by
  unfold cellsF
  apply List.ext_getElem?
  intro i
  rw [List.getElem?_set, List.getElem?_map, List.getElem?_map]
  by_cases hi : i < n
  · rw [List.getElem?_range hi]
    by_cases e2 : v = i
    · subst e2; simp [upd, hi]
    · rw [if_neg e2]
      have : ¬ i = v := fun e => e2 e.symm
      simp [upd, this]
  · have : (List.range n)[i]? = none := by simp; omega
    rw [this]
    split
    · simp; omega
    · rfl
theorem info65k : ((Try.prog.info? 65).map fun i => (i.zero, i.size, i.bytes)) = some (some (.agg #[.int .i64 0, .int .i64 0]), 2, 16) := by kernel_rfl
theorem made_pairs (m : Nat) : (madeCells (Value.agg #[.int .i64 0, .int .i64 0]).cells (m * 2)).toList = cellsF (m * 2) (fun _ => 0) := by
  unfold madeCells cellsF
  have : (Value.agg #[.int .i64 0, .int .i64 0]).cells = #[.int .i64 0, .int .i64 0] := rfl
  rw [this]
  apply List.ext_getElem?
  intro i
  by_cases h : i < m * 2
  · rcases Nat.mod_two_eq_zero_or_one i with e | e <;> simp [h, e]
  · simp [h]
theorem own_made65 {w : World} {b g m : Nat} (h : w.ownsRow b 65 2 (.slice (some ⟨g, 0, none⟩) m m) m (madeCells (Value.agg #[.int .i64 0, .int .i64 0]).cells (m * 2)).toList) : Row w g 65 (cellsF (m * 2) (fun _ => 0)) := by
  rw [made_pairs] at h
  rcases h.2 with ⟨h, _⟩ | ⟨g', cap, cur, h, hb, hg, hc, _, hs, ht⟩
  · cases h
  · injection h with h1 _ h2; injection h1 with h1; injection h1 with h1; subst h1; subst h2
    unfold Row
    rw [hg, ← ht]
    congr 2
    rw [List.take_of_length_le (by simp; omega)]
/-- What a share says of the first k edges. -/
def shareOK (es : List (Int × Int)) (H : Nat → Nat → Int) (k : Nat) (f : Nat → Int) : Prop := ∀ i, i < k → f (i * 2) = H (pA es i).toNat (pB es i).toNat ∧ f (i * 2 + 1) = H (pB es i).toNat (pA es i).toNat
theorem share_any (g m : Nat) (gs : List Nat) (H : Nat → Nat → Int) (L : Nat → Int) (A : Option Addr) (c : Nat) (es : List (Int × Int)) (w : World) (hg : Rows16 gs) (hd : Div w g m gs H L) (hx : es.length ≤ 1000000) (ha : PairsAt w A es)
    (he : ∀ k, k < es.length → 0 ≤ pA es k ∧ pA es k < 16 ∧ 0 ≤ pB es k ∧ pB es k < 16 ∧ pA es k ≠ pB es k) :
    Calls Try.prog 44 #[.pointer (some ⟨g, 0, none⟩), .slice A es.length c] w fun e w' => ∃ f, shareOK es H es.length f ∧ e = .returned (.slice (some ⟨w.heap.size, 0, none⟩) es.length es.length) ∧ (0 < es.length → Row w' w.heap.size 65 (cellsF (es.length * 2) f)) ∧ Below w.heap.size w w' := by
  obtain ⟨i0, hi, hz0, hz1, hz2⟩ := info_parts info65k
  have HE := Lib.hid he
  clear he
  have hgl : g < w.heap.size := Row.lt hd
  go_enter Try.func44, Try.ntmps44
  go_wp2_with (at_make; refine wpList_make_full _ rfl _ _ 27 rfl w.heap.size 65 i0 (.agg #[.int .i64 0, .int .i64 0]) 2 Try.underlying27 hi hz0 hz1 .i64 .i64 _ _ es.length rfl rfl rfl rfl (by rw [hz2]; omega) (by unfold maxLen; omega) (Nat.le_refl _) ?_; intro w1 o1 hg1)
  have hb1 : Below w.heap.size w w1 := (Below.refl _ w).grown hg1 (Nat.le_refl _) (by simp)
  have hr1 : 0 < es.length → Row w1 w.heap.size 65 (cellsF (es.length * 2) (fun _ => 0)) := fun _ => own_made65 o1
  clear o1 hg1
  go_loopw [13] (fun i wr => ∃ (k : Nat) (f : Nat → Int), k ≤ es.length ∧ i = .int .i64 k ∧ shareOK es H k f ∧ (0 < es.length → Row wr w.heap.size 65 (cellsF (es.length * 2) f)) ∧ Below w.heap.size w wr) (fun i _ => es.length - (intOf i).toNat)
  case atStart => exact ⟨0, _, by omega, rfl, fun j hj => absurd hj (by omega), hr1, hb1⟩
  case round =>
    obtain ⟨k, f, hk, rfl, hs, hr, hbr⟩ := hrel
    have HS := Lib.hid hs
    clear hs hr1 hb1
    by_cases hlt : k < es.length
    · have hr' := hr (by omega)
      obtain ⟨b, o, rfl, hb1, hc⟩ := ha (by omega)
      obtain ⟨c1, c2⟩ := hc k hlt
      have c1' : wr.cell? ⟨b, o + k * 2, none⟩ = some (.int .i64 (pA es k)) := (hbr.cell (p := ⟨b, _, none⟩) hb1).trans c1
      have c2' : wr.cell? ⟨b, o + k * 2 + 1, none⟩ = some (.int .i64 (pB es k)) := (hbr.cell (p := ⟨b, _, none⟩) hb1).trans c2
      obtain ⟨e1, e2, e3, e4, e5⟩ := HE.out k hlt
      have hd' : Div wr g m gs H L := Row.fr hd (Fr.of_below hbr : Fr (fun _ => False) w wr) (by simp)
      obtain ⟨a, hA⟩ : ∃ a : Nat, pA es k = a := ⟨(pA es k).toNat, by omega⟩
      obtain ⟨b2, hB⟩ : ∃ b2 : Nat, pB es k = b2 := ⟨(pB es k).toNat, by omega⟩
      rw [hA] at c1' e1 e2 e5
      rw [hB] at c2' e3 e4 e5
      have HA := Lib.hid hA
      have HB := Lib.hid hB
      clear hA hB hc c1 c2
      have a16 : a < 16 := by omega
      have b16 : b2 < 16 := by omega
      have d1 := hd'.has hg a16 b16
      have d2 := hd'.has hg b16 a16
      have lb : b < wr.heap.size := Nat.lt_of_lt_of_le hb1 hbr.size
      have lg := Row.lt hd'
      have lr := hr'.lt
      have s1 : wr.cell? ⟨w.heap.size, k * 2, none⟩ = some (.int .i64 (f (k * 2))) := by rw [hr'.cell, cellsF_at f (by omega)]
      have s2 : wr.cell? ⟨w.heap.size, k * 2 + 1, none⟩ = some (.int .i64 (f (k * 2 + 1))) := by rw [hr'.cell, cellsF_at f (by omega)]
      have f1 := hr'.free (k * 2)
      have f2 := hr'.free (k * 2 + 1)
      clear e1 e2 e3 e4 hd' hr
      go_wp2
      refine wp_region_quiet_tail 24 (by kernel_rfl) (by kernel_rfl) ?_
      simp only [List.take_succ_cons, List.take_zero, List.drop_succ_cons, List.drop_zero]
      repeat go_big_quiet_step ((fail))
      refine wpQuiet_nil ?_
      rintro _ ⟨nq, rfl⟩
      go_wp2
      go_roundw
      case rel =>
        have h5 := (((hr'.alloc (.cells #[.int .i64 a, .int .i64 b2] 67)).drewN nq).set (k * 2) (.int .i64 (H a b2))).set (k * 2 + 1) (.int .i64 (H b2 a))
        rw [cellsF_set, cellsF_set] at h5
        refine ⟨k + 1, _, by omega, by go_num, fun j hj => ?_, fun _ => h5, ?_⟩
        · by_cases h : j = k
          · subst h; rw [HA.out, HB.out]; simp [upd]
          · have := HS.out j (by omega)
            unfold upd
            rw [if_neg (by omega), if_neg (by omega), if_neg (by omega), if_neg (by omega)]; exact this
        · (repeat (first | exact Below.refl _ _ | assumption | (refine Below.setCell ?_ (by first | exact Nat.le_refl _ | omega | (simp; done) | (simp; omega)) _) | (refine Below.trans ?_ (below_drewN _)) | (refine Below.drew ?_) | (refine Below.alloc ?_ (by first | exact Nat.le_refl _ | omega | (simp; done) | (simp; omega)) _) | (refine below_row ?_ (by first | exact Nat.le_refl _ | omega | (simp; done) | (simp; omega)) _)))
      case measure => simp [intOf]; omega
    · obtain rfl : k = es.length := by omega
      go_wp2
      go_ret
      exact ⟨f, HS.out, rfl, hr, hbr⟩
end Go.Proofs.Ytpaeagkgmbhndaa
/- Listing heads. -/
namespace Go.Proofs.Ytpaeagkgmbhndaa
open Go.RowKit
set_option maxHeartbeats 1000000
set_option maxRecDepth 100000
/-- Which end of each of the first k edges has a piece of it. -/
def headsOK (es : List (Int × Int)) (H : Nat → Nat → Int) (k : Nat) (hs : List Nat) : Prop := ∀ i, i < k → (getn hs i : Int) = if 0 < H (pB es i).toNat (pA es i).toNat then pB es i else pA es i
theorem heads_div (g m : Nat) (gs : List Nat) (H : Nat → Nat → Int) (L : Nat → Int) (A : Option Addr) (c : Nat) (es : List (Int × Int)) (w : World) (hg : Rows16 gs) (hd : Div w g m gs H L) (hx : es.length ≤ 1000000) (ha : PairsAt w A es)
    (he : ∀ k, k < es.length → 0 ≤ pA es k ∧ pA es k < 16 ∧ 0 ≤ pB es k ∧ pB es k < 16 ∧ pA es k ≠ pB es k) :
    Calls Try.prog 51 #[.pointer (some ⟨g, 0, none⟩), .slice A es.length c] w fun e w' => ∃ hs, hs.length = es.length ∧ headsOK es H es.length hs ∧ e = .returned (.slice (some ⟨w.heap.size, 0, none⟩) es.length es.length) ∧ Row w' w.heap.size 3 (intv hs) ∧ Below w.heap.size w w' := by
  obtain ⟨i0, hi, hz0, hz1, hz2⟩ := info_parts info3
  have HE := Lib.hid he
  clear he
  have hgl : g < w.heap.size := Row.lt hd
  go_enter Try.func51, Try.ntmps51
  go_wp2_with (at_make; refine wpList_make_full _ rfl _ _ 24 rfl w.heap.size 3 i0 (.int .i64 0) 1 Try.underlying24 hi hz0 hz1 .i64 .i64 _ _ es.length rfl rfl rfl rfl (by rw [hz2]; omega) (by unfold maxLen; omega) (Nat.le_refl _) ?_; intro w1 o1 hg1)
  have hb1 : Below w.heap.size w w1 := (Below.refl _ w).grown hg1 (Nat.le_refl _) (by simp)
  have hr1 := own_made o1
  clear o1 hg1
  go_loopw [13] (fun i wr => ∃ (k : Nat) (hs : List Nat), k ≤ es.length ∧ i = .int .i64 k ∧ hs.length = es.length ∧ headsOK es H k hs ∧ Row wr w.heap.size 3 (intv hs) ∧ Below w.heap.size w wr) (fun i _ => es.length - (intOf i).toNat)
  case atStart => exact ⟨0, _, by omega, rfl, List.length_replicate, fun j hj => absurd hj (by omega), hr1, hb1⟩
  case round =>
    obtain ⟨k, hs, hk, rfl, hl, hh, hr, hbr⟩ := hrel
    have HH := Lib.hid hh
    have HL := Lib.hid hl
    clear hh hr1 hb1 hl
    by_cases hlt : k < es.length
    · obtain ⟨b, o, rfl, hb1, hc⟩ := ha (by omega)
      obtain ⟨c1, c2⟩ := hc k hlt
      have c1' : wr.cell? ⟨b, o + k * 2, none⟩ = some (.int .i64 (pA es k)) := (hbr.cell (p := ⟨b, _, none⟩) hb1).trans c1
      have c2' : wr.cell? ⟨b, o + k * 2 + 1, none⟩ = some (.int .i64 (pB es k)) := (hbr.cell (p := ⟨b, _, none⟩) hb1).trans c2
      obtain ⟨e1, e2, e3, e4, e5⟩ := HE.out k hlt
      have hd' : Div wr g m gs H L := Row.fr hd (Fr.of_below hbr : Fr (fun _ => False) w wr) (by simp)
      obtain ⟨a, hA⟩ : ∃ a : Nat, pA es k = a := ⟨(pA es k).toNat, by omega⟩
      obtain ⟨b2, hB⟩ : ∃ b2 : Nat, pB es k = b2 := ⟨(pB es k).toNat, by omega⟩
      rw [hA] at c1' e1 e2 e5
      rw [hB] at c2' e3 e4 e5
      have HA := Lib.hid hA
      have HB := Lib.hid hB
      clear hA hB hc c1 c2
      have a16 : a < 16 := by omega
      have b16 : b2 < 16 := by omega
      have d2 := hd'.has hg b16 a16
      have lb : b < wr.heap.size := Nat.lt_of_lt_of_le hb1 hbr.size
      have lg := Row.lt hd'
      have lr := hr.lt
      have s1 : wr.cell? ⟨w.heap.size, k, none⟩ = some (.int .i64 (getn hs k)) := intv_row hr (by rw [HL.out]; exact hlt)
      have f1 := hr.free k
      have hkl : k < hs.length := by rw [HL.out]; exact hlt
      have HKL := Lib.hid hkl
      clear e1 e2 e3 e4 hd' hkl
      cases g1 : decide (0 < H b2 a)
      · go_wp2
        refine wp_region_quiet_lit (by kernel_rfl) (by kernel_rfl) ?_
        repeat go_big_quiet_step ((fail))
        refine wpQuiet_nil ?_
        rintro _ ⟨nq, rfl⟩
        go_wp2
        go_roundw
        case rel =>
          have h5 := (((hr.set k (.int .i64 a)).alloc (.cells #[.int .i64 a, .int .i64 b2] 67)).drewN nq)
          rw [intv_set] at h5
          refine ⟨k + 1, _, by omega, by go_num, by rw [List.length_set]; exact HL.out, fun j hj => ?_, h5, ?_⟩
          · rw [getn_set HKL.out]
            by_cases h : k = j
            · subst h; rw [HA.out, HB.out, if_pos rfl]
              have h3 := of_decide_eq_false g1
              rw [if_neg (by simpa using h3)]
            · rw [if_neg h]; exact HH.out j (by omega)
          · (repeat (first | exact Below.refl _ _ | assumption | (refine Below.setCell ?_ (by first | exact Nat.le_refl _ | omega | (simp; done) | (simp; omega)) _) | (refine Below.trans ?_ (below_drewN _)) | (refine Below.drew ?_) | (refine Below.alloc ?_ (by first | exact Nat.le_refl _ | omega | (simp; done) | (simp; omega)) _) | (refine below_row ?_ (by first | exact Nat.le_refl _ | omega | (simp; done) | (simp; omega)) _)))
        case measure => simp [intOf]; omega
      · go_wp2
        refine wp_region_quiet_lit (by kernel_rfl) (by kernel_rfl) ?_
        repeat go_big_quiet_step ((fail))
        refine wpQuiet_nil ?_
        rintro _ ⟨nq, rfl⟩
        go_wp2
        go_roundw
        case rel =>
          have h5 := (((hr.set k (.int .i64 a)).alloc (.cells #[.int .i64 a, .int .i64 b2] 67)).drewN nq).set k (.int .i64 b2)
          rw [intv_set, intv_set] at h5
          refine ⟨k + 1, _, by omega, by go_num, by rw [List.length_set, List.length_set]; exact HL.out, fun j hj => ?_, h5, ?_⟩
          · rw [getn_set (by rw [List.length_set]; exact HKL.out)]
            by_cases h : k = j
            · subst h; rw [HA.out, HB.out, if_pos rfl]
              have h3 := of_decide_eq_true g1
              rw [if_pos (by simpa using h3)]
            · rw [if_neg h, getn_set HKL.out, if_neg h]; exact HH.out j (by omega)
          · (repeat (first | exact Below.refl _ _ | assumption | (refine Below.setCell ?_ (by first | exact Nat.le_refl _ | omega | (simp; done) | (simp; omega)) _) | (refine Below.trans ?_ (below_drewN _)) | (refine Below.drew ?_) | (refine Below.alloc ?_ (by first | exact Nat.le_refl _ | omega | (simp; done) | (simp; omega)) _) | (refine below_row ?_ (by first | exact Nat.le_refl _ | omega | (simp; done) | (simp; omega)) _)))
        case measure => simp [intOf]; omega
    · obtain rfl : k = es.length := by omega
      go_wp2
      go_ret
      exact ⟨hs, HL.out, HH.out, rfl, hr, hbr⟩
end Go.Proofs.Ytpaeagkgmbhndaa
/- The vertices that are full. -/
namespace Go.Proofs.Ytpaeagkgmbhndaa
open Go.RowKit Go.Shelf
attribute [local go_sem] Oper.semAt_some
set_option maxHeartbeats 1000000
set_option maxRecDepth 100000
theorem Div.graph {w : World} {g m : Nat} {gs : List Nat} {H : Nat → Nat → Int} {L : Nat → Int} (d : Div w g m gs H L) : w.rangeAt g 0 (gcells m gs) := fun j v hj => by
  have hl := (List.getElem?_eq_some_iff.1 hj).1
  rw [Nat.zero_add, Row.cell d]
  unfold dcells
  rw [List.getElem?_append_left hl]; exact hj
theorem info75m {m : Nat} {gs : List Nat} (h : Rows16 gs) : (Try.prog.info? 75).map (·.size) = some (gcells m gs).length := by
  have := info75g (m := m) h
  simpa using this
/-- Nothing can be moved from v to a smaller load. -/
def Stuck (gs : List Nat) (H : Nat → Nat → Int) (L : Nat → Int) (lim : Int) (v : Nat) : Prop := ∃ R, WayPost gs H L v lim R []
def Freed (gs : List Nat) (H : Nat → Nat → Int) (L : Nat → Int) (lim : Int) (v : Nat) : Prop := ∃ R ws, ws ≠ [] ∧ WayPost gs H L v lim R ws
/-- The set s is right about the vertices xs. -/
structure FullI (gs : List Nat) (H : Nat → Nat → Int) (L : Nat → Int) (lim : Int) (xs : List Nat) (s : Nat) : Prop where
  lt : s < 65536
  sub : ∀ v, sHas s v = true → v ∈ xs ∧ L v = lim ∧ Stuck gs H L lim v
  all : ∀ v ∈ xs, sHas s v = true ∨ L v ≠ lim ∨ Freed gs H L lim v
theorem FullI.skip {gs : List Nat} {H : Nat → Nat → Int} {L : Nat → Int} {lim : Int} {xs : List Nat} {s y : Nat} (h : FullI gs H L lim xs s) (hy : L y ≠ lim ∨ Freed gs H L lim y) : FullI gs H L lim (xs ++ [y]) s := by
  refine ⟨h.lt, fun v hv => ?_, fun v hv => ?_⟩
  · have := h.sub v hv; exact ⟨List.mem_append_left _ this.1, this.2⟩
  · rcases List.mem_append.1 hv with hv | hv
    · exact h.all v hv
    · simp at hv; subst hv; exact .inr hy
theorem FullI.add {gs : List Nat} {H : Nat → Nat → Int} {L : Nat → Int} {lim : Int} {xs : List Nat} {s y : Nat} (h : FullI gs H L lim xs s) (hy : y < 16) (h1 : L y = lim) (h2 : Stuck gs H L lim y) : FullI gs H L lim (xs ++ [y]) (sWith s y) := by
  refine ⟨with_lt h.lt hy, fun v hv => ?_, fun v hv => ?_⟩
  · rw [with_has] at hv
    by_cases e : y = v
    · subst e; exact ⟨by simp, h1, h2⟩
    · have := h.sub v (by simpa [e] using hv); exact ⟨List.mem_append_left _ this.1, this.2⟩
  · rw [with_has]
    rcases List.mem_append.1 hv with hv | hv
    · rcases h.all v hv with h3 | h3
      · exact .inl (by rw [h3]; rfl)
      · exact .inr h3
    · simp at hv; subst hv; exact .inl (by simp)
theorem full_any (g m : Nat) (gs : List Nat) (H : Nat → Nat → Int) (L : Nat → Int) (lim : Int) (w : World) (hg : Rows16 gs) (hm : m ≤ 16) (hdv : Div w g m gs H L) :
    Calls Try.prog 59 #[.pointer (some ⟨g, 0, none⟩), .int .i64 lim] w fun e w' => ∃ s : Nat, e = .returned (.int .u32 s) ∧ FullI gs H L lim (ms (sAll m)) s ∧ Below w.heap.size w w' := by
  have hgl := Row.lt hdv
  have HAL := Lib.hid (fun w => all_any m gs w hm hg.len)
  have hs := all_lt hm
  have HI := Lib.hid (info75m (m := m) hg)
  refine callsIn_wide.1 (?_ : CallsIn Fence.wide 9 _ _ _ _ _)
  generalize hFw : Fence.wide = F
  have hO : Open F := hFw ▸ Open.wide
  have hro : F.round = none := hFw ▸ rfl
  clear hFw
  have hF := hO.fn
  have hd := hO.depth
  have F59 := hF 59
  refine callsIn_of_wp_marks Try.func59 rfl F59 ?_ hro
  simp only [Try.ntmps59, List.size_toArray, List.length_cons, List.length_nil, Nat.reduceAdd, Nat.reduceSub, Array.replicate_succ, Array.replicate_zero, List.push_toArray, List.append_toArray, List.nil_append, List.cons_append]
  have hdg : World.rangeAt (((w.alloc (.cells #[.pointer (some ⟨g, 0, none⟩)] 78)).alloc (.cells #[.int .i64 lim] 3)).alloc (.cells #[.int .u32 0] 72)) g 0 (gcells m gs) := Div.graph (((hdv.alloc _).alloc _).alloc _ : Div _ g m gs H L)
  gi_wp2_with (first
    | (refine wpListIn_load_mid rfl 75 (.tmp 11) rfl g 0 rfl (gcells m gs) _ hdg Try.underlying75 rfl HI.out ?_)
    | (gi_at_call 58; refine (hO.lift _ (HAL.out _)).mono ?_; rintro e w' ⟨rfl, hb2⟩)
    | (gi_at_call 61; refine (hO.lift _ (members_any _ _)).mono ?_; rintro e w' ⟨rfl, rfl⟩))
  have hb3 := (((((Below.refl _ w).alloc (Nat.le_refl _) (.cells #[.pointer (some ⟨g, 0, none⟩)] 78)).alloc (by first | (simp; done) | (simp; omega)) (.cells #[.int .i64 lim] 3)).alloc (by first | (simp; done) | (simp; omega)) (.cells #[.int .u32 0] 72)).trans (hb2.mono (by simp; omega)))
  have q0 : Row w' w.heap.size 78 [.pointer (some ⟨g, 0, none⟩)] := (((row_new rfl : Row (w.alloc _) _ 78 [.pointer (some ⟨g, 0, none⟩)]).alloc _).alloc _).below hb2
  have q1 : Row w' (w.heap.size + 1) 3 [.int .i64 lim] := ((row_new (by simp) : Row ((w.alloc _).alloc _) _ 3 [.int .i64 lim]).alloc _).below hb2
  have q2 : Row w' (w.heap.size + 1 + 1) 72 [.int .u32 (0 : Nat)] := (row_new (by simp) : Row (((w.alloc _).alloc _).alloc _) _ 72 [.int .u32 (0 : Nat)]).below hb2
  have hz := q2.lt
  have r0 := q0.alloc (.cells #[.int .u32 (sAll m)] 72)
  have r1 := q1.alloc (.cells #[.int .u32 (sAll m)] 72)
  have r2 := q2.alloc (.cells #[.int .u32 (sAll m)] 72)
  have rB : Row (w'.alloc (.cells #[.int .u32 (sAll m)] 72)) w'.heap.size 72 [.int .u32 (sAll m)] := row_new rfl
  have hb4 := hb3.alloc (by omega) (.cells #[.int .u32 (sAll m)] 72)
  have HWO := Lib.hid (fun W v (hd : Div W g m gs H L) (hv : v < 16) => wayOut_any g m v gs H L lim W hg hd hv)
  generalize hw4 : World.alloc w' _ = w4 at *
  have hz4 : w.heap.size + 3 ≤ w4.heap.size := by rw [← hw4]; simp; omega
  clear hw4
  clear hb3 hdg q0 q1 q2 hb2
  refine range_members hO hro (by omega) w'.heap.size (sAll m) hs rB rfl rfl
    (fun pre W => ∃ s : Nat, FullI gs H L lim (vals pre) s ∧ Fr (fun _ => False) w W ∧ Row W w.heap.size 78 [.pointer (some ⟨g, 0, none⟩)] ∧ Row W (w.heap.size + 1) 3 [.int .i64 lim] ∧ Row W (w.heap.size + 1 + 1) 72 [.int .u32 s] ∧ Row W w'.heap.size 72 [.int .u32 (sAll m)]) (fun _ _ _ => False)
    (ownFrom_ex fun s => OwnFrom.and ownFrom_pure (OwnFrom.and (ownFrom_fr hb4.size) (OwnFrom.and ownFrom_row (OwnFrom.and ownFrom_row (OwnFrom.and ownFrom_row ownFrom_row))))) (fun _ _ _ _ _ h _ _ => h) ⟨0, ⟨by omega, fun v hv => by simp [sHas] at hv, fun v hv => by simp [vals] at hv⟩, Fr.of_below hb4, r0, r1, r2, rB⟩ ?a1 ?assign ?body ?done (fun _ _ _ _ _ h _ => h.elim)
  case assign =>
    intro l x W K hK
    gi_wp2
    exact hK
  case body =>
    rintro l pre x W ⟨s, hI, hfr, q0, q1, q2, q3⟩ hlen
    have hxl := x.2.1
    obtain ⟨c0, f0⟩ := q0.cells1
    obtain ⟨c1, f1⟩ := q1.cells1
    have hdW : Div W g m gs H L := Row.fr hdv hfr (by simp)
    have Hs := Lib.hid (vals_snoc pre x)
    have HII := Lib.hid hI
    have hsl := hI.lt
    clear hI
    generalize hx : x.1 = y at *
    clear hx
    have HW1 := Lib.hid (fun w => with_any s y w (by omega) (by omega))
    gi_wp2_with (gi_at_call 64; refine ((hO.inRound l).lift _ (HWO.out W y hdW hxl)).mono ?_; rintro e W5 ⟨wy, R, ws, rfl, hp, hown, hb5⟩; obtain ⟨A6, k6, e6, -⟩ := own_ints hown; subst e6)
    have p0 := q0.below hb5
    have p1 := q1.below hb5
    have p2 := q2.below hb5
    have p3 := q3.below hb5
    have hfr5 := hfr.then_below hb5
    have hd5 : Div W5 g m gs H L := Row.fr hdv hfr5 (by simp)
    have d1 := hd5.load hg hxl
    have HP := Lib.hid hp
    obtain ⟨c0, f0⟩ := p0.cells1
    obtain ⟨c1, f1⟩ := p1.cells1
    obtain ⟨c2, f2⟩ := p2.cells1
    clear hown hp hdW hd5
    cases g1 : (L y == lim) <;> cases g2 : ((ws.length : Int) == 0)
    all_goals
      gi_wp2
      refine wpIn_region_quiet_all (hO.inRound l) (by kernel_rfl) (by kernel_rfl) (by kernel_rfl) ?_
      repeat go_big_quiet_step ((fail))
      refine wpQuiet_nil ?_
      rintro _ ⟨nq, rfl⟩
      gi_wp2_with (gi_at_call 57; refine ((hO.inRound l).lift _ (HW1.out _)).mono ?_; rintro e w' ⟨rfl, rfl⟩)
    · exact ⟨(keeps_below _ hb5).trans (keeps_drewN _ _ _), keepB_row q3 (p3.drewN nq), s, by rw [Hs.out]; exact HII.out.skip (.inl (by simpa using g1)), hfr5.drewN nq, p0.drewN nq, p1.drewN nq, p2.drewN nq, p3.drewN nq⟩
    · exact ⟨(keeps_below _ hb5).trans (keeps_drewN _ _ _), keepB_row q3 (p3.drewN nq), s, by rw [Hs.out]; exact HII.out.skip (.inl (by simpa using g1)), hfr5.drewN nq, p0.drewN nq, p1.drewN nq, p2.drewN nq, p3.drewN nq⟩
    · exact ⟨(keeps_below _ hb5).trans (keeps_drewN _ _ _), keepB_row q3 (p3.drewN nq), s, by rw [Hs.out]; exact HII.out.skip (.inr ⟨R, ws, by intro e; subst e; simp at g2, HP.out⟩), hfr5.drewN nq, p0.drewN nq, p1.drewN nq, p2.drewN nq, p3.drewN nq⟩
    · have e0 : ws = [] := by
        have : (ws.length : Int) = 0 := by simpa using g2
        exact List.eq_nil_of_length_eq_zero (by omega)
      refine ⟨((keeps_below _ hb5).trans (keeps_drewN _ _ _)).trans ((KeepsOthers.setCell _ _ _).from _), keepB_row q3 ((p3.drewN nq).far (by dsimp only; omega) _), sWith s y, ?_, (hfr5.drewN nq).setCell (.inr (by dsimp only; omega)) _, (p0.drewN nq).far (by dsimp only; omega) _, (p1.drewN nq).far (by dsimp only; omega) _, (p2.drewN nq).set 0 _, (p3.drewN nq).far (by dsimp only; omega) _⟩
      rw [Hs.out]
      exact HII.out.add hxl (by simpa using g1) ⟨R, by have := HP.out; rw [e0] at this; exact this⟩
  case done =>
    rintro D xs W hD hxs ⟨s, hI, hfr, q0, q1, q2, q3⟩ hK
    rw [hxs] at hI
    obtain ⟨c2, f2⟩ := q2.cells1
    gi_wp2
    refine ret_marks [D] (marks_one hK) (v := .int .u32 s) ?_ ⟨s, rfl, hI, shut_below hfr.below (by simp; omega)⟩
    simp [results, Try.results59, go_sem]
end Go.Proofs.Ytpaeagkgmbhndaa
/- Spreads of pieces, and moving some along a way: plain facts. -/
namespace Go.Proofs.Ytpaeagkgmbhndaa
set_option maxHeartbeats 400000
def sumN : Nat → (Nat → Int) → Int
  | 0, _ => 0
  | n + 1, f => sumN n f + f n
theorem sumN_congr {f h : Nat → Int} : ∀ n, (∀ i, i < n → f i = h i) → sumN n f = sumN n h
  | 0, _ => rfl
  | n + 1, e => by unfold sumN; rw [sumN_congr n (fun i hi => e i (by omega)), e n (by omega)]
theorem sumN_upd {f : Nat → Int} {v : Nat} (x : Int) : ∀ n, sumN n (upd f v x) = sumN n f + if v < n then x - f v else 0
  | 0 => by simp [sumN]
  | n + 1 => by
    unfold sumN
    rw [sumN_upd x n]
    by_cases h : v = n
    · subst h; simp [upd]; omega
    · have : upd f v x n = f n := by simp [upd, Ne.symm h]
      rw [this]
      by_cases h2 : v < n
      · rw [if_pos h2, if_pos (by omega)]; omega
      · rw [if_neg h2, if_neg (by omega)]; omega
theorem sumN_nn {f : Nat → Int} : ∀ n, (∀ i, i < n → 0 ≤ f i) → 0 ≤ sumN n f
  | 0, _ => Int.le_refl _
  | n + 1, h => by unfold sumN; have := sumN_nn n (fun i hi => h i (by omega)); have := h n (by omega); omega
theorem sumN_le {f : Nat → Int} {B : Int} : ∀ n : Nat, (∀ i, i < n → f i ≤ B) → sumN n f ≤ n * B
  | 0, _ => by simp [sumN]
  | n + 1, h => by
    unfold sumN
    have h1 := sumN_le n (fun i hi => h i (by omega))
    have h2 := h n (by omega)
    have h3 : ((n + 1 : Nat) : Int) * B = n * B + B := by rw [Int.natCast_succ, Int.add_mul, Int.one_mul]
    omega
/-- What a vertex has of its edges. -/
def outF (H : Nat → Nat → Int) (v : Nat) : Int := sumN 16 (H v)
theorem movS_at {H : Nat → Nat → Int} {p : Int} {u v : Nat} (h : u ≠ v) (a b : Nat) : movS H p u v a b = if a = v ∧ b = u then H v u + p else if a = u ∧ b = v then H u v - p else H a b := by
  unfold movS upd2
  have : ¬ (v = u ∧ u = v) := fun e => h e.2
  simp only [if_neg this]
theorem outF_movS {H : Nat → Nat → Int} {p : Int} {u v : Nat} (h : u ≠ v) (hu : u < 16) (hv : v < 16) (a : Nat) : outF (movS H p u v) a = outF H a + (if a = v then p else 0) - (if a = u then p else 0) := by
  unfold outF
  by_cases e1 : a = v
  · subst e1
    have : ∀ i, i < 16 → movS H p u a a i = upd (H a) u (H a u + p) i := fun i _ => by
      rw [movS_at h]; unfold upd
      by_cases e : i = u
      · subst e; simp
      · simp [e, Ne.symm h]
    rw [sumN_congr 16 this, sumN_upd, if_pos hu, if_pos rfl, if_neg (Ne.symm h)]; omega
  · by_cases e2 : a = u
    · subst e2
      have : ∀ i, i < 16 → movS H p a v a i = upd (H a) v (H a v - p) i := fun i _ => by
        rw [movS_at h]; unfold upd
        by_cases e : i = v
        · subst e; simp [h]
        · simp [e, h]
      rw [sumN_congr 16 this, sumN_upd, if_pos hv, if_neg e1, if_pos rfl]; omega
    · have : ∀ i, i < 16 → movS H p u v a i = H a i := fun i _ => by rw [movS_at h]; simp [e1, e2]
      rw [sumN_congr 16 this, if_neg e1, if_neg e2]; omega
/-- All the pieces of each edge are with its ends, and the loads tell how many each vertex has. -/
structure Spread (gs : List Nat) (pcs : Int) (H : Nat → Nat → Int) (L : Nat → Int) : Prop where
  nn : ∀ u v, u < 16 → v < 16 → 0 ≤ H u v
  sum : ∀ u v, u < 16 → v < 16 → sHas (near gs u) v = true → H u v + H v u = pcs
  no : ∀ u v, u < 16 → v < 16 → sHas (near gs u) v = false → H u v = 0
  load : ∀ v, v < 16 → L v = outF H v
theorem WayL.steps {E : Nat → Nat → Prop} {f : Nat} : ∀ ws : List Nat, WayL E f ws → (0 < ws.length) ∧ (∀ k, k + 1 < ws.length → E (getn ws (k + 1)) (getn ws k)) ∧ getn ws (ws.length - 1) = f
  | [], h => h.elim
  | [v], h => ⟨by simp, fun k hk => absurd hk (by simp), h⟩
  | v :: p :: t, h => by
    have ih := WayL.steps (p :: t) h.2.2
    refine ⟨by simp, fun k hk => ?_, ?_⟩
    · cases k with
      | zero => exact h.1
      | succ k => exact ih.2.1 k (by simp at hk ⊢; omega)
    · have := ih.2.2; simpa [getn] using this
theorem getn_inj {xs : List Nat} (h : xs.Nodup) {i j : Nat} (hi : i < xs.length) (hj : j < xs.length) (e : getn xs i = getn xs j) : i = j := by
  rw [getn_eq hi, getn_eq hj] at e
  rcases Nat.lt_trichotomy i j with h1 | h1 | h1
  · exact absurd e (List.pairwise_iff_getElem.1 h i j hi hj h1)
  · exact h1
  · exact absurd e.symm (List.pairwise_iff_getElem.1 h j i hj hi h1)
theorem movT_facts {ws : List Nat} (hn : ws.Nodup) (hl : ∀ k, k < ws.length → getn ws k < 16) (H : Nat → Nat → Int) (p : Int) : ∀ j, j < ws.length →
    (∀ a b, movT ws H p j a b = H a b ∨ (∃ k, k < j ∧ a = getn ws (k + 1) ∧ b = getn ws k ∧ movT ws H p j a b = H a b - p) ∨ (∃ k, k < j ∧ a = getn ws k ∧ b = getn ws (k + 1) ∧ movT ws H p j a b = H a b + p)) ∧
    (∀ a b, movT ws H p j a b + movT ws H p j b a = H a b + H b a) ∧
    (∀ a, outF (movT ws H p j) a = outF H a + (if a = getn ws 0 then p else 0) - (if a = getn ws j then p else 0)) := by
  intro j
  induction j with
  | zero => intro _; exact ⟨fun a b => .inl rfl, fun a b => rfl, fun a => by simp only [movT]; omega⟩
  | succ j ih =>
    intro hj
    obtain ⟨i1, i2, i3⟩ := ih (by omega)
    have huv : getn ws (j + 1) ≠ getn ws j := fun e => by have := getn_inj hn hj (by omega) e; omega
    have f1 : movT ws H p j (getn ws (j + 1)) (getn ws j) = H (getn ws (j + 1)) (getn ws j) := by
      rcases i1 (getn ws (j + 1)) (getn ws j) with h | ⟨k, hk, ha, hb, _⟩ | ⟨k, hk, ha, hb, _⟩
      · exact h
      · have := getn_inj hn hj (by omega) ha; omega
      · have := getn_inj hn hj (by omega) ha; omega
    have f2 : movT ws H p j (getn ws j) (getn ws (j + 1)) = H (getn ws j) (getn ws (j + 1)) := by
      rcases i1 (getn ws j) (getn ws (j + 1)) with h | ⟨k, hk, ha, hb, _⟩ | ⟨k, hk, ha, hb, _⟩
      · exact h
      · have := getn_inj hn hj (by omega) hb; omega
      · have := getn_inj hn hj (by omega) hb; omega
    refine ⟨fun a b => ?_, fun a b => ?_, fun a => ?_⟩
    · simp only [movT]
      rw [movS_at huv]
      by_cases e1 : a = getn ws j ∧ b = getn ws (j + 1)
      · rw [if_pos e1]
        exact .inr (.inr ⟨j, by omega, e1.1, e1.2, by rw [f2, e1.1, e1.2]⟩)
      · rw [if_neg e1]
        by_cases e2 : a = getn ws (j + 1) ∧ b = getn ws j
        · rw [if_pos e2]
          exact .inr (.inl ⟨j, by omega, e2.1, e2.2, by rw [f1, e2.1, e2.2]⟩)
        · rw [if_neg e2]
          rcases i1 a b with h | ⟨k, hk, h⟩ | ⟨k, hk, h⟩
          · exact .inl h
          · exact .inr (.inl ⟨k, by omega, h⟩)
          · exact .inr (.inr ⟨k, by omega, h⟩)
    · have := i2 a b
      simp only [movT]
      rw [movS_at huv, movS_at huv]
      by_cases e1 : a = getn ws j ∧ b = getn ws (j + 1)
      · have e3 : ¬ (b = getn ws j ∧ a = getn ws (j + 1)) := fun e => huv (by rw [← e1.2, e.1])
        rw [if_pos e1, if_neg e3, if_pos ⟨e1.2, e1.1⟩, f1, f2, e1.1, e1.2]; omega
      · rw [if_neg e1]
        by_cases e2 : a = getn ws (j + 1) ∧ b = getn ws j
        · rw [if_pos e2, if_pos ⟨e2.2, e2.1⟩, f1, f2, e2.1, e2.2]; omega
        · rw [if_neg e2, if_neg (fun e => e2 ⟨e.2, e.1⟩), if_neg (fun e => e1 ⟨e.2, e.1⟩)]; exact this
    · show outF (movS _ _ _ _) a = _
      rw [outF_movS huv (hl _ hj) (hl _ (by omega)), i3 a]
      omega
theorem mn_le (a b : Int) : mn a b ≤ a ∧ mn a b ≤ b := by unfold mn; split <;> omega
theorem mn_pos {a b : Int} (ha : 1 ≤ a) (hb : 1 ≤ b) : 1 ≤ mn a b := by unfold mn; split <;> omega
theorem minT_le (ws : List Nat) (H : Nat → Nat → Int) (p : Int) : ∀ j, minT ws H p j ≤ p ∧ ∀ k, k < j → minT ws H p j ≤ H (getn ws (k + 1)) (getn ws k)
  | 0 => ⟨Int.le_refl _, fun k hk => absurd hk (by omega)⟩
  | j + 1 => by
    obtain ⟨h1, h2⟩ := minT_le ws H p j
    have h3 := mn_le (minT ws H p j) (H (getn ws (j + 1)) (getn ws j))
    refine ⟨by simp only [minT]; omega, fun k hk => ?_⟩
    simp only [minT]
    by_cases e : k = j
    · subst e; omega
    · have := h2 k (by omega); omega
theorem minT_pos {ws : List Nat} {H : Nat → Nat → Int} {p : Int} (hp : 1 ≤ p) : ∀ j, (∀ k, k < j → 1 ≤ H (getn ws (k + 1)) (getn ws k)) → 1 ≤ minT ws H p j
  | 0, _ => hp
  | j + 1, h => mn_pos (minT_pos hp j (fun k hk => h k (by omega))) (h j (by omega))
/-- How much is too much. -/
def exc (lim : Int) (L : Nat → Int) : Nat := (sumN 16 fun v => if lim < L v then L v - lim else 0).toNat
def way0 (L : Nat → Int) (lim : Int) (ws : List Nat) : Int := mn (L (getn ws (ws.length - 1)) - lim) (lim - L (getn ws 0))
theorem Spread.move {gs : List Nat} {pcs : Int} {H : Nat → Nat → Int} {L : Nat → Int} (s : Spread gs pcs H L) {f : Nat} {lim : Int} {R : Nat} {ws : List Nat} (w : WayPost gs H L f lim R ws) (hne : ws ≠ []) (hf : lim < L f) (hsym : ∀ u v, u < 16 → v < 16 → sHas (near gs u) v = sHas (near gs v) u) :
    Spread gs pcs (movT ws H (minT ws H (way0 L lim ws) (ws.length - 1)) (ws.length - 1)) (upd (upd L (getn ws (ws.length - 1)) (L (getn ws (ws.length - 1)) - minT ws H (way0 L lim ws) (ws.length - 1))) (getn ws 0) (upd L (getn ws (ws.length - 1)) (L (getn ws (ws.length - 1)) - minT ws H (way0 L lim ws) (ws.length - 1)) (getn ws 0) + minT ws H (way0 L lim ws) (ws.length - 1))) ∧
    exc lim (upd (upd L (getn ws (ws.length - 1)) (L (getn ws (ws.length - 1)) - minT ws H (way0 L lim ws) (ws.length - 1))) (getn ws 0) (upd L (getn ws (ws.length - 1)) (L (getn ws (ws.length - 1)) - minT ws H (way0 L lim ws) (ws.length - 1)) (getn ws 0) + minT ws H (way0 L lim ws) (ws.length - 1))) < exc lim L ∧ 2 ≤ ws.length := by
  obtain ⟨g1, g2, g3, g4, g5, g6⟩ := w.way hne
  obtain ⟨h1, h2, h3⟩ := g1.steps
  have hlen : 2 ≤ ws.length := by
    by_cases e : ws.length = 1
    · rw [e] at h3; exact absurd h3 g6
    · omega
  have hw : ∀ k, k < ws.length → getn ws k < 16 := fun k hk => g4 _ (getn_mem hk)
  rw [h3]
  have hw0 : getn ws 0 < 16 := hw 0 (by omega)
  have hf16 : f < 16 := by rw [← h3]; exact hw _ (by omega)
  have hp0 : way0 L lim ws = mn (L f - lim) (lim - L (getn ws 0)) := by unfold way0; rw [h3]
  rw [hp0]
  generalize hP : minT ws H (mn (L f - lim) (lim - L (getn ws 0))) (ws.length - 1) = P
  have hle := minT_le ws H (mn (L f - lim) (lim - L (getn ws 0))) (ws.length - 1)
  have hmn := mn_le (L f - lim) (lim - L (getn ws 0))
  have harc : ∀ k, k < ws.length - 1 → 1 ≤ H (getn ws (k + 1)) (getn ws k) := fun k hk => by
    obtain ⟨a1, a2, a3, a4⟩ := h2 k (by omega)
    have := s.nn _ _ a1 a2; omega
  have hpos := minT_pos (p := mn (L f - lim) (lim - L (getn ws 0))) (mn_pos (by omega) (by omega)) _ harc
  rw [hP] at hle hpos
  obtain ⟨t1, t2, t3⟩ := movT_facts g2 hw H P (ws.length - 1) (by omega)
  rw [h3] at t3
  have hL' : ∀ v, upd (upd L f (L f - P)) (getn ws 0) (upd L f (L f - P) (getn ws 0) + P) v = L v + (if v = getn ws 0 then P else 0) - (if v = f then P else 0) := by
    intro v
    unfold upd
    by_cases e1 : v = getn ws 0
    · subst e1; simp [g6]
    · by_cases e2 : v = f
      · subst e2; simp [e1]
      · simp [e1, e2]
  refine ⟨⟨fun u v hu hv => ?_, fun u v hu hv h => by rw [t2]; exact s.sum u v hu hv h, fun u v hu hv h => ?_, fun v hv => by rw [hL', t3, s.load v hv]⟩, ?_, hlen⟩
  · have := s.nn u v hu hv
    rcases t1 u v with h | ⟨k, hk, rfl, rfl, h⟩ | ⟨k, hk, rfl, rfl, h⟩
    · omega
    · have := hle.2 k hk; omega
    · omega
  · rcases t1 u v with h4 | ⟨k, hk, rfl, rfl, h4⟩ | ⟨k, hk, rfl, rfl, h4⟩
    · rw [h4]; exact s.no u v hu hv h
    · have := (h2 k (by omega)).2.2.1; rw [h] at this; cases this
    · have := (h2 k (by omega)).2.2.1; rw [hsym _ _ hv hu, h] at this; cases this
  · unfold exc
    have he : ∀ v, v < 16 → (fun v => if lim < upd (upd L f (L f - P)) (getn ws 0) (upd L f (L f - P) (getn ws 0) + P) v then upd (upd L f (L f - P)) (getn ws 0) (upd L f (L f - P) (getn ws 0) + P) v - lim else 0) v = upd (fun v => if lim < L v then L v - lim else 0) f ((L f - lim) - P) v := by
      intro v _
      simp only [hL']
      by_cases e2 : v = f
      · have e3 : L v + (if v = getn ws 0 then P else 0) - (if v = f then P else 0) = L f - P := by rw [if_neg (fun e => g6 (by rw [← e, e2])), if_pos e2, e2]; omega
        rw [e3]
        unfold upd
        rw [if_pos e2]
        split <;> omega
      · by_cases e1 : v = getn ws 0
        · have e3 : L v + (if v = getn ws 0 then P else 0) - (if v = f then P else 0) = L v + P := by rw [if_pos e1, if_neg e2]; omega
          rw [e3]
          unfold upd
          rw [if_neg e2]
          dsimp only
          rw [e1, if_neg (by omega), if_neg (by omega)]
        · have e3 : L v + (if v = getn ws 0 then P else 0) - (if v = f then P else 0) = L v := by rw [if_neg e1, if_neg e2]; omega
          rw [e3]
          unfold upd
          rw [if_neg e2]
    rw [sumN_congr 16 he, sumN_upd, if_pos hf16]
    have hnn : 0 ≤ sumN 16 (fun v => if lim < L v then L v - lim else 0) := sumN_nn 16 (fun i _ => by split <;> omega)
    have hnn2 : 0 ≤ sumN 16 (upd (fun v => if lim < L v then L v - lim else 0) f ((L f - lim) - P)) := sumN_nn 16 (fun i _ => by
      unfold upd; split
      · omega
      · show 0 ≤ (if lim < L i then L i - lim else 0)
        split <;> omega)
    rw [sumN_upd, if_pos hf16] at hnn2
    have e5 : (if lim < L f then L f - lim else 0) = L f - lim := if_pos hf
    simp only [e5] at hnn2 ⊢
    omega
end Go.Proofs.Ytpaeagkgmbhndaa
/- Relieving vertices. -/
namespace Go.Proofs.Ytpaeagkgmbhndaa
open Go.RowKit Go.Shelf
attribute [local go_sem] Oper.semAt_some
set_option maxHeartbeats 1000000
set_option maxRecDepth 100000
theorem own_more {w : World} {b n : Nat} {v : Value} {xs : List Nat} (h : w.ownsRow b 3 1 v n (intv xs)) : ∃ A c, v = .slice A xs.length c ∧ IntsAt w A (natI xs) ∧ xs.length ≤ c ∧ ∀ b' o, A = some ⟨b', o, none⟩ → b ≤ b' := by
  obtain ⟨A, c, rfl, rfl, hi⟩ := own_ints h
  refine ⟨A, c, rfl, hi, ?_, fun b' o e => ?_⟩
  · rcases h.2 with ⟨h1, h2⟩ | ⟨g, cap, cur, h1, hb, hg, hc, _⟩
    · injection h1 with _ _ h3; omega
    · injection h1 with _ _ h3; omega
  · subst e; exact (own_ge h (g := b') rfl).1
theorem Spread.bd {gs : List Nat} {pcs : Int} {H : Nat → Nat → Int} {L : Nat → Int} (s : Spread gs pcs H L) (hp : 0 ≤ pcs ∧ pcs ≤ 6000) : (∀ u v, u < 16 → v < 16 → 0 ≤ H u v ∧ H u v ≤ 6000) ∧ ∀ v, v < 16 → 0 ≤ L v ∧ L v ≤ 100000 := by
  have h1 : ∀ u v, u < 16 → v < 16 → 0 ≤ H u v ∧ H u v ≤ 6000 := fun u v hu hv => by
    have a1 := s.nn u v hu hv
    have a2 := s.nn v u hv hu
    refine ⟨a1, ?_⟩
    cases h : sHas (near gs u) v
    · rw [s.no u v hu hv h]; omega
    · have := s.sum u v hu hv h; omega
  refine ⟨h1, fun v hv => ?_⟩
  rw [s.load v hv]
  unfold outF
  have a1 := sumN_nn (f := H v) 16 (fun i hi => (h1 v i hv hi).1)
  have a2 := sumN_le (f := H v) (B := 6000) 16 (fun i hi => (h1 v i hv hi).2)
  exact ⟨a1, by omega⟩
theorem Spread.move_le {gs : List Nat} {H : Nat → Nat → Int} {L : Nat → Int} {f : Nat} {lim : Int} {R : Nat} {ws : List Nat} (w : WayPost gs H L f lim R ws) (hne : ws ≠ []) (hf : lim < L f) {v : Nat} (hv : L v ≤ lim) :
    upd (upd L (getn ws (ws.length - 1)) (L (getn ws (ws.length - 1)) - minT ws H (way0 L lim ws) (ws.length - 1))) (getn ws 0) (upd L (getn ws (ws.length - 1)) (L (getn ws (ws.length - 1)) - minT ws H (way0 L lim ws) (ws.length - 1)) (getn ws 0) + minT ws H (way0 L lim ws) (ws.length - 1)) v ≤ lim := by
  obtain ⟨g1, g2, g3, g4, g5, g6⟩ := w.way hne
  obtain ⟨h1, h2, h3⟩ := g1.steps
  rw [h3]
  have hp0 : way0 L lim ws = mn (L f - lim) (lim - L (getn ws 0)) := by unfold way0; rw [h3]
  rw [hp0]
  have hle := (minT_le ws H (mn (L f - lim) (lim - L (getn ws 0))) (ws.length - 1)).1
  have hmn := mn_le (L f - lim) (lim - L (getn ws 0))
  generalize minT ws H (mn (L f - lim) (lim - L (getn ws 0))) (ws.length - 1) = P at *
  have hvf : v ≠ f := by intro e; subst e; omega
  unfold upd
  by_cases e1 : v = getn ws 0
  · rw [if_pos e1, if_neg g6]; omega
  · rw [if_neg e1, if_neg hvf]; exact hv
theorem shut_fr {X : Nat → Prop} {Ds : List Nat} {w W : World} (h : Fr X w W) (hB : ∀ D ∈ Ds, w.heap.size ≤ D) : Fr X w (shut Ds W) := by
  induction Ds generalizing W with
  | nil => exact h
  | cons D Ds ih =>
    refine ih ⟨h.os, h.tape, h.output, Nat.le_trans h.size (by simp), fun k hk hx => (World.putObj_heap_other (fun e => ?_)).trans (h.block k hk hx)⟩ (fun E hE => hB E (List.mem_cons_of_mem _ hE))
    have := hB D (List.mem_cons_self ..); omega
/-- How relieving ends. -/
def RelPost (g m : Nat) (gs : List Nat) (pcs lim : Int) (s : Nat) (w : World) : Prop := ∃ H L, Spread gs pcs H L ∧ Div w g m gs H L ∧
  ((s = 0 ∧ ∀ v ∈ ms (sAll m), L v ≤ lim) ∨ ∃ v, v ∈ ms (sAll m) ∧ lim < L v ∧ WayPost gs H L v lim s [])
theorem relieve_any (g m : Nat) (gs : List Nat) (H0 : Nat → Nat → Int) (L0 : Nat → Int) (pcs lim : Int) (w : World) (hg : Rows16 gs) (hm : m ≤ 16) (hp : 0 ≤ pcs ∧ pcs ≤ 6000) (hlim : 0 ≤ lim ∧ lim ≤ 100000)
    (hsym : ∀ u v, u < 16 → v < 16 → sHas (near gs u) v = sHas (near gs v) u) (hs0 : Spread gs pcs H0 L0) (hdv : Div w g m gs H0 L0) :
    Calls Try.prog 50 #[.pointer (some ⟨g, 0, none⟩), .int .i64 lim] w fun e w' => ∃ s : Nat, e = .returned (.int .u32 s) ∧ RelPost g m gs pcs lim s w' ∧ Fr (fun k => k = g) w w' := by
  have hgl := Row.lt hdv
  have HAL := Lib.hid (fun w => all_any m gs w hm hg.len)
  have hs := all_lt hm
  have HI := Lib.hid (info75m (m := m) hg)
  refine callsIn_wide.1 (?_ : CallsIn Fence.wide 9 _ _ _ _ _)
  generalize hFw : Fence.wide = F
  have hO : Open F := hFw ▸ Open.wide
  have hro : F.round = none := hFw ▸ rfl
  clear hFw
  have hF := hO.fn
  have hd := hO.depth
  have F50 := hF 50
  refine callsIn_of_wp_marks Try.func50 rfl F50 ?_ hro
  simp only [Try.ntmps50, List.size_toArray, List.length_cons, List.length_nil, Nat.reduceAdd, Nat.reduceSub, Array.replicate_succ, Array.replicate_zero, List.push_toArray, List.append_toArray, List.nil_append, List.cons_append]
  have hdg : World.rangeAt (((w.alloc (.cells #[.pointer (some ⟨g, 0, none⟩)] 78)).alloc (.cells #[.int .i64 lim] 3)).alloc (.cells #[.int .u32 0] 72)) g 0 (gcells m gs) := Div.graph (((hdv.alloc _).alloc _).alloc _ : Div _ g m gs H0 L0)
  gi_wp2_with (first
    | (refine wpListIn_load_mid rfl 75 (.tmp 10) rfl g 0 rfl (gcells m gs) _ hdg Try.underlying75 rfl HI.out ?_)
    | (gi_at_call 58; refine (hO.lift _ (HAL.out _)).mono ?_; rintro e w' ⟨rfl, hb2⟩)
    | (gi_at_call 61; refine (hO.lift _ (members_any _ _)).mono ?_; rintro e w' ⟨rfl, rfl⟩))
  have hb3 := (((((Below.refl _ w).alloc (Nat.le_refl _) (.cells #[.pointer (some ⟨g, 0, none⟩)] 78)).alloc (by first | (simp; done) | (simp; omega)) (.cells #[.int .i64 lim] 3)).alloc (by first | (simp; done) | (simp; omega)) (.cells #[.int .u32 0] 72)).trans (hb2.mono (by simp; omega)))
  have q0 : Row w' w.heap.size 78 [.pointer (some ⟨g, 0, none⟩)] := (((row_new rfl : Row (w.alloc _) _ 78 [.pointer (some ⟨g, 0, none⟩)]).alloc _).alloc _).below hb2
  have q1 : Row w' (w.heap.size + 1) 3 [.int .i64 lim] := ((row_new (by simp) : Row ((w.alloc _).alloc _) _ 3 [.int .i64 lim]).alloc _).below hb2
  have q2 : Row w' (w.heap.size + 1 + 1) 72 [.int .u32 (0 : Nat)] := (row_new (by simp) : Row (((w.alloc _).alloc _).alloc _) _ 72 [.int .u32 (0 : Nat)]).below hb2
  have hz := q2.lt
  have r0 := q0.alloc (.cells #[.int .u32 (sAll m)] 72)
  have r1 := q1.alloc (.cells #[.int .u32 (sAll m)] 72)
  have r2 := q2.alloc (.cells #[.int .u32 (sAll m)] 72)
  have rB : Row (w'.alloc (.cells #[.int .u32 (sAll m)] 72)) w'.heap.size 72 [.int .u32 (sAll m)] := row_new rfl
  have hb4 := hb3.alloc (by omega) (.cells #[.int .u32 (sAll m)] 72)
  have HWO := Lib.hid (fun W H L v (hd : Div W g m gs H L) (hv : v < 16) => wayOut_any g m v gs H L lim W hg hd hv)
  generalize hw4 : World.alloc w' _ = w4 at *
  have hz4 : w.heap.size + 3 ≤ w4.heap.size := by rw [← hw4]; simp; omega
  clear hw4 hb3 hdg q0 q1 q2 hb2
  have hdv4 : Div w4 g m gs H0 L0 := Row.fr hdv (Fr.of_below hb4 : Fr (fun _ => False) w w4) (by simp)
  refine range_members hO hro (by omega) w'.heap.size (sAll m) hs rB rfl rfl
    (fun pre W => ∃ H L, (Spread gs pcs H L ∧ ∀ u ∈ vals pre, L u ≤ lim) ∧ Div W g m gs H L ∧ Fr (fun k => k = g) w W ∧ Row W w.heap.size 78 [.pointer (some ⟨g, 0, none⟩)] ∧ Row W (w.heap.size + 1) 3 [.int .i64 lim] ∧ Row W (w.heap.size + 1 + 1) 72 [.int .u32 (0 : Nat)] ∧ Row W w'.heap.size 72 [.int .u32 (sAll m)])
    (fun c _ W => c = .ret ∧ ∃ H L R, (Spread gs pcs H L ∧ ∃ v, v ∈ ms (sAll m) ∧ lim < L v ∧ WayPost gs H L v lim R []) ∧ Div W g m gs H L ∧ Fr (fun k => k = g) w W ∧ Row W (w.heap.size + 1 + 1) 72 [.int .u32 (R : Nat)])
    (ownFrom_ex fun H => ownFrom_ex fun L => OwnFrom.and ownFrom_pure (OwnFrom.and ownFrom_row (OwnFrom.and (ownFrom_fr hb4.size) (OwnFrom.and ownFrom_row (OwnFrom.and ownFrom_row (OwnFrom.and ownFrom_row ownFrom_row))))))
    (fun c => OwnFrom.and ownFrom_pure (ownFrom_ex fun H => ownFrom_ex fun L => ownFrom_ex fun R => OwnFrom.and ownFrom_pure (OwnFrom.and ownFrom_row (OwnFrom.and (ownFrom_fr hb4.size) ownFrom_row))))
    ⟨H0, L0, ⟨hs0, fun u hu => by simp [vals] at hu⟩, hdv4, Fr.of_below hb4, r0, r1, r2, rB⟩ ?a1 ?assign ?body ?done ?stop
  case assign =>
    intro l x W K hK
    gi_wp2
    exact hK
  case body =>
    rintro l pre x W ⟨H, L, ⟨hsp, hall⟩, hd, hfr, q0, q1, q2, q3⟩ hlen
    have hxl := x.2.1
    have hxm : x.1 ∈ ms (sAll m) := mem_ms.2 x.2
    have Hs := Lib.hid (vals_snoc pre x)
    generalize hx : x.1 = y at *
    clear hx
    gi_wp2
    gi_loopg [] (exc lim L) (fun n W1 => ∃ H L, (n = exc lim L ∧ Spread gs pcs H L ∧ ∀ u ∈ vals pre, L u ≤ lim) ∧ Div W1 g m gs H L ∧ Fr (fun k => k = g) W W1)
    case atStart => exact ⟨H, L, ⟨rfl, hsp, hall⟩, hd, Fr.refl _ _⟩
    case round =>
      obtain ⟨H1, L1, ⟨hn, hsp1, hall1⟩, hd1, hfr1⟩ := hrel
      have p0 := q0.fr hfr1 (by omega)
      have p1 := q1.fr hfr1 (by omega)
      have p2 := q2.fr hfr1 (by omega)
      have p3 := q3.fr hfr1 (by omega)
      have hkg : ∀ k, k = g → ∃ o, W.heap[k]? = some o ∧ o.isCells = true := fun k hk => by subst hk; exact ⟨_, hd, rfl⟩
      have hkW := keeps_fr w4.heap.size hfr1 hkg
      have hfw := hfr.trans hfr1
      have HS1 := Lib.hid hsp1
      have HA1 := Lib.hid hall1
      have HNN := Lib.hid hn
      obtain ⟨c0, f0⟩ := p0.cells1
      obtain ⟨c1, f1⟩ := p1.cells1
      have d1 := hd1.load hg hxl
      have hgr := Row.lt hd1
      clear hn hsp1 hall1 hsp hall
      cases g1 : decide (lim < L1 y)
      · gi_wp2
        refine wpIn_region_quiet_all (hO.inRound l) (by kernel_rfl) (by kernel_rfl) (by kernel_rfl) ?_
        repeat go_big_quiet_step ((fail))
        refine wpQuiet_nil ?_
        rintro _ ⟨nq, rfl⟩
        gi_wp2
        refine ⟨hkW.trans (keeps_drewN _ _ _), keepB_row q3 (p3.drewN nq), H1, L1, ⟨HS1.out, fun u hu => ?_⟩, Row.drewN hd1 nq, hfw.drewN nq, p0.drewN nq, p1.drewN nq, p2.drewN nq, p3.drewN nq⟩
        rw [Hs.out] at hu
        rcases List.mem_append.1 hu with hu | hu
        · exact HA1.out u hu
        · simp at hu; subst hu; have := of_decide_eq_false g1; omega
      · have hlt := of_decide_eq_true g1
        obtain ⟨c2, f2⟩ := p2.cells1
        gi_wp2
        refine wpIn_region_quiet_all (hO.inRound l) (by kernel_rfl) (by kernel_rfl) (by kernel_rfl) ?_
        repeat go_big_quiet_step ((fail))
        refine wpQuiet_nil ?_
        rintro _ ⟨nq, rfl⟩
        gi_wp2_with (gi_at_call 64; refine ((hO.inRound l).lift _ (HWO.out (wr.drewN nq) H1 L1 y (Row.drewN hd1 nq) hxl)).mono ?_; rintro e W5 ⟨wy, R, ws, rfl, hpo, hown, hb5⟩; obtain ⟨A6, k6, e6, hin, hcap, hblk⟩ := own_more hown; subst e6; have HPO := Lib.hid hpo; have hs5 := hb5.size; have t0 := (p0.drewN nq).below hb5; have t1 := (p1.drewN nq).below hb5; have t2 := (p2.drewN nq).below hb5; have t3 := (p3.drewN nq).below hb5; have hd5 : Div W5 g m gs H1 L1 := Row.below (Row.drewN hd1 nq) hb5; obtain ⟨d0, e0⟩ := t0.cells1; obtain ⟨d1', e1⟩ := t1.cells1; obtain ⟨d2, e2⟩ := t2.cells1; clear hpo hown; cases g2 : ((ws.length : Int) == 0))
        · have hne : ws ≠ [] := by intro e; subst e; simp at g2
          obtain ⟨sw1, sw2, sw3⟩ := HS1.out.move HPO.out hne hlt hsym
          have sw4 := fun v hv => Spread.move_le HPO.out hne hlt (v := v) hv
          obtain ⟨bd1, bd2⟩ := HS1.out.bd hp
          obtain ⟨y1, y2, y3, y4, y5, y6⟩ := HPO.out.way hne
          refine ((hO.inRound l).lift _ (move_any g m gs H1 L1 A6 k6 ws lim W5 hg hd5 hin (fun b o e => by have := hblk b o e; simp at this; omega) sw3 y3 hcap (fun k hk => y4 _ (getn_mem hk)) (fun u v hu hv => ⟨(bd1 u v hu hv).1, by have := (bd1 u v hu hv).2; omega⟩) bd2 hlim _ rfl)).mono ?_
          rintro e W6 ⟨rfl, hd6, hfr6⟩
          have hwW : Fr (fun k => k = g) W W6 := ((hfr1.drewN nq).then_below hb5).trans hfr6
          obtain ⟨H6, L6, z1, z2, z3, z4⟩ : ∃ H6 L6, Spread gs pcs H6 L6 ∧ exc lim L6 < exc lim L1 ∧ (∀ v, L1 v ≤ lim → L6 v ≤ lim) ∧ Div W6 g m gs H6 L6 := ⟨_, _, sw1, sw2, sw4, hd6⟩
          clear bd1 bd2 y1 y2 y3 y4 y5 y6 sw1 sw2 sw4 hd6
          gi_wp2
          gi_roundg (exc lim L6)
          case rel => exact ⟨H6, L6, ⟨rfl, z1, fun u hu => z3 u (HA1.out u hu)⟩, z4, hwW⟩
          case measure => rw [HNN.out]; exact z2
        · have e0 : ws = [] := by
            have : (ws.length : Int) = 0 := by simpa using g2
            exact List.eq_nil_of_length_eq_zero (by omega)
          have hk5 := (hkW.trans (keeps_drewN _ _ nq)).trans ((keeps_below _ hb5).trans ((KeepsOthers.setCell W5 ⟨w.heap.size + 1 + 1, 0, none⟩ (.int .u32 R)).from _))
          exact ⟨hk5, rfl, H1, L1, R, ⟨HS1.out, y, hxm, hlt, by have := HPO.out; rw [e0] at this; exact this⟩, Row.far hd5 (by dsimp only; omega) _, ((hfw.drewN nq).then_below hb5).setCell (.inr (by dsimp only; omega)) _, t2.set 0 _⟩
  case done =>
    rintro D xs W hD hxs ⟨H, L, ⟨hsp, hall⟩, hd, hfr, q0, q1, q2, q3⟩ hK
    rw [hxs] at hall
    obtain ⟨c2, f2⟩ := q2.cells1
    gi_wp2
    have hk1 := keeps_mark ((KeepsOthers.setCell W ⟨w.heap.size + 1 + 1, 0, none⟩ (.int .u32 0)).from w4.heap.size) hD hK
    have hm1 := marks_one hk1
    have q5 := (shut_row hm1 (q2.set 0 (.int .u32 (0 : Nat)))).cells1.1
    have hd5 : Div (shut [D] (W.setCell ⟨w.heap.size + 1 + 1, 0, none⟩ (.int .u32 (0 : Nat)))) g m gs H L := shut_row hm1 (Row.far hd (by dsimp only; omega) _)
    have hf5 := shut_fr (Ds := [D]) (hfr.setCell (p := ⟨w.heap.size + 1 + 1, 0, none⟩) (.inr (by dsimp only; omega)) (.int .u32 (0 : Nat))) (fun E hE => by simp at hE; omega)
    refine ret_marks [D] hm1 (v := .int .u32 (0 : Nat)) ?_ ⟨0, rfl, ⟨H, L, hsp, hd5, .inl ⟨rfl, hall⟩⟩, hf5⟩
    simp [results, Try.results50, go_sem] at q5 ⊢
    simp [q5]
  case stop =>
    rintro D c pre W hD ⟨rfl, H, L, R, ⟨hsp, hv⟩, hd, hfr, q2⟩ hK
    obtain ⟨c2, f2⟩ := q2.cells1
    gi_wp2
    have hm1 := marks_one hK
    have q5 := (shut_row hm1 q2).cells1.1
    have hd5 : Div (shut [D] W) g m gs H L := shut_row hm1 hd
    have hf5 := shut_fr (Ds := [D]) hfr (fun E hE => by simp at hE; omega)
    refine ret_marks [D] hm1 (v := .int .u32 R) ?_ ⟨R, rfl, ⟨H, L, hsp, hd5, .inr hv⟩, hf5⟩
    simp [results, Try.results50, go_sem] at q5 ⊢
    simp [q5]
end Go.Proofs.Ytpaeagkgmbhndaa
