/- The reference's sums of two sets. -/
import Derived.Test.YtokjdadgdfmffaaKS
namespace Go.Proofs.Ytokjdadgdfmffaa
open Go.RowKit
set_option maxHeartbeats 1000000
set_option maxRecDepth 100000
def hasN (N : Nat) (S : List Int) : List Value := (List.range N).map fun v : Nat => .bool (decide ((v : Int) ∈ S))
theorem hasN_len (N : Nat) (S : List Int) : (hasN N S).length = N := by simp [hasN]
theorem hasN_at (N : Nat) (S : List Int) {v : Nat} (h : v < N) : (hasN N S)[v]? = some (.bool (decide ((v : Int) ∈ S))) := by
  unfold hasN
  rw [List.getElem?_map, List.getElem?_range h]; rfl
theorem hasN_set (N : Nat) (S : List Int) {x : Nat} (_h : x < N) : (hasN N S).set x (.bool true) = hasN N (S ++ [(x : Int)]) := by
  apply List.ext_getElem?
  intro j
  by_cases hj : j < N
  · rw [List.getElem?_set, hasN_at _ _ hj, hasN_at _ _ hj, hasN_len]
    by_cases e : x = j
    · subst e
      simp [hj]
    · rw [if_neg e]
      have e2 : ¬ ((j : Int) = (x : Int)) := by omega
      simp [e2]
  · rw [List.getElem?_eq_none (by rw [List.length_set, hasN_len]; omega), List.getElem?_eq_none (by rw [hasN_len]; omega)]
theorem info4 : (Try.prog.info? 4).map (fun i => (i.zero, i.size, i.bytes)) = some (some (.bool false), 1, 1) := by kernel_rfl
theorem make_bools (n : Nat) (hn : n ≤ 1000000) (W : World) : (Instr.makeSlice 80 (.int .i64 n) (.int .i64 n)).run Try.prog W = .ok (.slice (some ⟨W.heap.size, 0, none⟩) n n) (W.alloc (.cells (hasN n []).toArray 4)) := by
  obtain ⟨j0, ji, jz0, jz1, jz2⟩ := info_parts info4
  have h := run_make (P := Try.prog) W 80 4 j0 (.bool false) Try.underlying80 ji jz0 .i64 .i64 n n (by omega) (by omega) (by rw [jz2]; omega) (by omega)
  rw [jz1, Int.toNat_natCast] at h
  have e : (madeCells (Value.bool false).cells (n * 1)) = (hasN n []).toArray := by
    apply Array.ext'
    unfold madeCells
    have hc : (Value.bool false).cells = #[.bool false] := rfl
    rw [hc]
    apply List.ext_getElem?
    intro i
    by_cases hi : i < n
    · rw [hasN_at _ _ hi]
      simp [Nat.mod_one, hi]
    · have h5 : (hasN n [])[i]? = none := List.getElem?_eq_none (by rw [hasN_len]; omega)
      rw [h5]
      simp [hi]
  rw [h, e]
theorem mem_SL {p : Int} {a b : List Int} {s : Int} (h : s ∈ SL p a b) (hp : 0 < p) : 0 ≤ s ∧ s < p := by
  unfold SL at h
  obtain ⟨x, _, h2⟩ := List.mem_flatMap.1 h
  obtain ⟨y, _, rfl⟩ := List.mem_map.1 h2
  exact ⟨Int.emod_nonneg _ (by omega), Int.emod_lt_of_pos _ hp⟩
theorem colL_cut {S : List Int} {p : Nat} (h : ∀ s ∈ S, s < (p : Int)) : ∀ k, colL S (p + k) = colL S p
  | 0 => rfl
  | k + 1 => by
    rw [← Nat.add_assoc, colL_no S (fun hm => by have := h _ hm; omega)]
    exact colL_cut h k
theorem RefBoth_any (p : Nat) (A B : Option Addr) (c d : Nat) (a b : List Int) (w : World) (hp : 1 ≤ p ∧ p ≤ 97) (hla : a.length ≤ 1000000) (hlb : b.length ≤ 1000000) (ha : IntsAt w A a) (hb : IntsAt w B b)
    (hxa : ∀ i, i < a.length → 0 ≤ geti a i ∧ geti a i < p) (hxb : ∀ i, i < b.length → 0 ≤ geti b i ∧ geti b i < p) :
    Calls Try.prog 38 #[.int .i64 p, .slice A a.length c, .slice B b.length d] w fun e w' => ∃ v, e = .returned v ∧ w'.ownsRow w.heap.size 3 1 v (bothL p a b).length (iv (bothL p a b)) ∧ Below w.heap.size w w' := by
  obtain ⟨p1, p2⟩ := hp
  have hmk := make_bools p (by omega)
  have r0 : Row (w.alloc (.cells (hasN p []).toArray 4)) w.heap.size 4 (hasN p (SLp p a b 0 0)) := row_new rfl
  have b0 : Below w.heap.size w (w.alloc (.cells (hasN p []).toArray 4)) := (Below.refl _ w).alloc (Nat.le_refl _) _
  have HA := Lib.hid ha
  have HB := Lib.hid hb
  have HXA := Lib.hid hxa
  have HXB := Lib.hid hxb
  clear ha hb hxa hxb
  go_enter Try.func38, Try.ntmps38
  go_wp2
  clear hmk
  go_loopw [8] (fun i wr => ∃ k : Nat, k ≤ a.length ∧ i = .int .i64 k ∧ Row wr w.heap.size 4 (hasN p (SLp p a b k 0)) ∧ Below w.heap.size w wr) (fun i _ => a.length - (intOf i).toNat)
  case atStart => exact ⟨0, by omega, rfl, r0, b0⟩
  case round =>
    clear r0 b0
    obtain ⟨k, hk, rfl, r0, b0⟩ := hrel
    by_cases hlt : k < a.length
    · obtain ⟨x1, x2⟩ := HXA.out k hlt
      have hsp : ∀ j, j < b.length → SLp p a b k (j + 1) = SLp p a b k j ++ [(geti a k + geti b j) % p] := fun j hj => SLp_step p a b k hj
      have HSP := Lib.hid hsp
      have HNX := Lib.hid (SLp_next p a b hlt)
      have HK := Lib.hid (fun (wr : World) (h : Below w.heap.size w wr) => ((HA.out.below h) (by omega)))
      have HXK := Lib.hid (rfl : geti a k = geti a k)
      generalize hx : geti a k = x at *
      have HX := Lib.hid hx
      clear hsp hx HXK
      go_wp2
      go_loopw [9] (fun i wr => ∃ j : Nat, j ≤ b.length ∧ i = .int .i64 j ∧ Row wr w.heap.size 4 (hasN p (SLp p a b k j)) ∧ Below w.heap.size w wr) (fun i _ => b.length - (intOf i).toNat)
      case atStart => exact ⟨0, by omega, rfl, r0, b0⟩
      case round =>
        clear r0 b0
        obtain ⟨j, hj, rfl, r0, b0⟩ := hrel
        by_cases hjt : j < b.length
        · obtain ⟨b1, o1, hAe, hb1, hc1⟩ := HK.out wr b0
          subst hAe
          have hcell := hc1 k hlt
          rw [HX.out] at hcell
          obtain ⟨b2, o2, hBe, hb2, hc2⟩ := (HB.out.below b0) (by omega)
          subst hBe
          have hcell2 := hc2 j hjt
          obtain ⟨y1, y2⟩ := HXB.out j hjt
          have hst := HSP.out j hjt
          have hmn : ∃ s : Nat, (x + geti b j) % p = s := ⟨((x + geti b j) % p).toNat, by have := Int.emod_nonneg (x + geti b j) (b := p) (by omega); omega⟩
          obtain ⟨s, hs⟩ := hmn
          have hsl : s < p := by have := Int.emod_lt_of_pos (x + geti b j) (b := p) (by omega); omega
          rw [hs] at hst
          have HST : Hid ((hasN p (SLp p a b k j)).set s (.bool true) = hasN p (SLp p a b k (j + 1))) := Lib.hid (by rw [hasN_set _ _ hsl, hst])
          generalize geti b j = y at *
          clear hst hc2 hc1
          go_wp2
          refine wp_region_quiet_tail 13 (by kernel_rfl) (by kernel_rfl) ?_
          simp only [List.take_succ_cons, List.take_zero, List.drop_succ_cons, List.drop_zero]
          repeat go_big_quiet_step ((fail))
          refine wpQuiet_nil ?_
          rintro _ ⟨nq, rfl⟩
          have hc3 := (r0.drewN nq).cell s
          rw [hasN_at _ _ hsl] at hc3
          have hf3 := (r0.drewN nq).free s
          go_wp2
          go_roundw
          case rel => exact ⟨j + 1, by omega, by go_num, by rw [← HST.out]; exact (r0.drewN nq).set s _, (b0.trans (below_drewN nq)).setCell (Nat.le_refl _) _⟩
          case measure => simp [intOf]; omega
        · obtain rfl : j = b.length := by omega
          rw [HNX.out] at r0
          go_wp2
          go_roundw
          case rel => exact ⟨k + 1, by omega, by go_num, r0, b0⟩
          case measure => simp [intOf]; omega
    · obtain rfl : k = a.length := by omega
      rw [SLp_all] at r0
      have HBL : Hid (bothL p a b = colL (SL p a b) p) := Lib.hid (by
        unfold bothL
        have h := colL_cut (S := SL p a b) (p := p) (fun s hs => (mem_SL hs (by omega)).2) (97 - p)
        rw [show p + (97 - p) = 97 by omega] at h
        exact h)
      generalize SL p a b = S at *
      have o0 : wr.ownsRow (w.heap.size + 1) 3 1 (.slice none 0 0) (colL S 0).length (iv (colL S 0)) := ⟨by simp [colL, iv], .inl ⟨rfl, by simp [colL]⟩⟩
      obtain ⟨j0, ji, jz0, jz1, jz2⟩ := info_parts info3
      go_wp2
      go_loopw [10, 11] (fun v i wr => ∃ k : Nat, k ≤ p ∧ i = .int .i64 k ∧ wr.ownsRow (w.heap.size + 1) 3 1 v (colL S k).length (iv (colL S k)) ∧ Row wr w.heap.size 4 (hasN p S) ∧ Below w.heap.size w wr) (fun _ i _ => p - (intOf i).toNat)
      case atStart => exact ⟨0, by omega, rfl, o0, r0, b0⟩
      case round =>
        clear o0 b0 r0
        obtain ⟨k, hk, rfl, o0, r0, b0⟩ := hrel
        by_cases hkt : k < p
        · have hx := r0.cell k
          rw [hasN_at _ _ hkt] at hx
          have hcl := colL_len S k
          by_cases hin : (k : Int) ∈ S
          · have HC := Lib.hid (colL_yes S hin)
            rw [decide_eq_true hin] at hx
            obtain ⟨A2, c2, e2, -, -, -⟩ := own_intsI o0
            subst e2
            have hnr : Row (wr.alloc (.cells #[.int .i64 k] 3)) wr.heap.size 3 [.int .i64 k] := row_new rfl
            have hbs := b0.size
            have hl0 := r0.lt
            generalize colL S k = P at *
            generalize hP2 : colL S (k + 1) = P2 at *
            have HP2 := Lib.hid hP2
            clear hP2
            clear hin
            go_wp2_with (at_builtin; refine wpList_append_own_at _ rfl (.tmp 48) (.tmp 50) 22 rfl (w.heap.size + 1) 3 j0 (.int .i64 0) 1 8 Try.underlying22 ji jz0 jz1 jz2 rfl (by decide) _ _ _ rfl (o0.alloc _) ⟨wr.heap.size, 0, none⟩ 1 1 [.int .i64 (k : Int)] rfl rfl (news_one hnr) (by simp [Value.oneCell']) (by unfold maxLen; omega) (by omega) (by simp; omega) ?_; intro v2 w2 o2 hg2 _ _)
            have b3 := app1' o0 (by omega) hg2
            have r3 := (app1 o0 (by omega) hg2).2 _ _ _ (by decide) r0
            have b2 := b0.trans (b3.mono (by omega))
            have o3 : w2.ownsRow (w.heap.size + 1) 3 1 v2 P2.length (iv P2) := by
              rw [HC.out, iv_snoc]; simpa using o2
            go_roundw
            case rel => exact ⟨k + 1, by omega, by go_num, by rw [HP2.out]; exact o3, r3, b2⟩
            case measure => simp [intOf]; omega
          · have HC := Lib.hid (colL_no S hin)
            rw [decide_eq_false hin] at hx
            clear hin
            go_wp2
            go_roundw
            case rel => exact ⟨k + 1, by omega, by go_num, by rw [HC.out]; exact o0, r0, b0⟩
            case measure => simp [intOf]; omega
        · obtain rfl : k = p := by omega
          obtain ⟨A2, c2, e2, -, -, -⟩ := own_intsI o0
          subst e2
          go_wp2
          go_ret
          exact ⟨.slice A2 _ c2, rfl, by rw [HBL.out]; exact own_mono o0 (by omega), b0⟩
end Go.Proofs.Ytokjdadgdfmffaa
