/- Sums of two sets. -/
import Derived.Test.YtokjdadgdfmffaaKO
namespace Go.Proofs.Ytokjdadgdfmffaa
open Go.RowKit
set_option maxHeartbeats 1000000
set_option maxRecDepth 100000
/-- The sums so far. -/
def SLp (p : Int) (a b : List Int) (i j : Nat) : List Int := ((a.take i).flatMap fun x => b.map fun y => (x + y) % p) ++ (b.take j).map fun y => (geti a i + y) % p
def SL (p : Int) (a b : List Int) : List Int := a.flatMap fun x => b.map fun y => (x + y) % p
theorem SLp_next (p : Int) (a b : List Int) {i : Nat} (h : i < a.length) : SLp p a b i b.length = SLp p a b (i + 1) 0 := by
  unfold SLp
  rw [List.take_succ_eq_append_getElem h, List.flatMap_append, List.take_length, ← geti_eq h]
  simp
theorem SLp_step (p : Int) (a b : List Int) (i : Nat) {j : Nat} (h : j < b.length) : SLp p a b i (j + 1) = SLp p a b i j ++ [(geti a i + geti b j) % p] := by
  unfold SLp
  rw [List.take_succ_eq_append_getElem h, List.map_append, ← List.append_assoc, ← geti_eq h]
  simp
theorem SLp_all (p : Int) (a b : List Int) : SLp p a b a.length 0 = SL p a b := by
  unfold SLp SL
  rw [List.take_length]; simp
def colL (S : List Int) (k : Nat) : List Int := ((List.range k).filter fun v : Nat => decide ((v : Int) ∈ S)).map fun v : Nat => (v : Int)
theorem colL_len (S : List Int) (k : Nat) : (colL S k).length ≤ k := by
  unfold colL
  rw [List.length_map]
  exact Nat.le_trans (List.length_filter_le _ _) (by simp)
theorem colL_yes (S : List Int) {k : Nat} (h : (k : Int) ∈ S) : colL S (k + 1) = colL S k ++ [(k : Int)] := by
  unfold colL
  rw [List.range_succ, List.filter_append, List.map_append]
  simp [h]
theorem colL_no (S : List Int) {k : Nat} (h : ¬ (k : Int) ∈ S) : colL S (k + 1) = colL S k := by
  unfold colL
  rw [List.range_succ, List.filter_append, List.map_append]
  simp [h]
theorem info101 : (Try.prog.info? 101).map (·.size) = some 97 := by kernel_rfl
theorem index101 (S : List Int) (k : Nat) (hk : k < 97) (w : World) : (Instr.index 101 (.agg (hasV S).toArray) (.int .i64 k)).run Try.prog w = .ok (.bool (decide ((k : Int) ∈ S))) w := by
  have h4 : (Try.prog.info? 4).map (fun i => (i.zero, i.size, i.bytes)) = some (some (.bool false), 1, 1) := by kernel_rfl
  obtain ⟨i0, hi, hz0, hz1, hz2⟩ := info_parts h4
  have h1 : (0:Int) ≤ k ∧ (k:Int) < 97 := by omega
  have h := hasV_at S hk
  have h2 : (hasV S).toArray[k]? = some (.bool (decide ((k : Int) ∈ S))) := by simpa using h
  have u4 : Try.prog.underlying 101 = some (.array 97 4) := Try.underlying101
  simp [Instr.index, asIntOf, Sem.run_bind, run_underlying u4, sizeOf, typeInfo, hi, hz1, part, h1]
  rw [if_pos hk, h]
  simp
theorem setSums_any (p : Int) (A B : Option Addr) (c d : Nat) (a b : List Int) (w : World) (hp : 1 ≤ p ∧ p ≤ 97) (hla : a.length ≤ 1000000) (hlb : b.length ≤ 1000000) (ha : IntsAt w A a) (hb : IntsAt w B b)
    (hxa : ∀ i, i < a.length → 0 ≤ geti a i ∧ geti a i < p) (hxb : ∀ i, i < b.length → 0 ≤ geti b i ∧ geti b i < p) :
    Calls Try.prog 63 #[.int .i64 p, .slice A a.length c, .slice B b.length d] w fun e w' => ∃ v, e = .returned v ∧ w'.ownsRow w.heap.size 3 1 v (colL (SL p a b) 97).length (iv (colL (SL p a b) 97)) ∧ Below w.heap.size w w' := by
  obtain ⟨p1, p2⟩ := hp
  have r0 : Row (w.alloc (.cells (hasV []).toArray 101)) w.heap.size 101 (hasV (SLp p a b 0 0)) := row_new rfl
  have b0 : Below w.heap.size w (w.alloc (.cells (hasV []).toArray 101)) := (Below.refl _ w).alloc (Nat.le_refl _) _
  have HA := Lib.hid ha
  have HB := Lib.hid hb
  have HXA := Lib.hid hxa
  have HXB := Lib.hid hxb
  have z1 := z101
  clear ha hb hxa hxb
  go_enter Try.func63, Try.ntmps63
  go_wp2
  clear z1
  go_loopw [17] (fun i wr => ∃ k : Nat, k ≤ a.length ∧ i = .int .i64 k ∧ Row wr w.heap.size 101 (hasV (SLp p a b k 0)) ∧ Below w.heap.size w wr) (fun i _ => a.length - (intOf i).toNat)
  case atStart => exact ⟨0, by omega, rfl, r0, b0⟩
  case round =>
    clear r0 b0
    obtain ⟨k, hk, rfl, r0, b0⟩ := hrel
    by_cases hlt : k < a.length
    · obtain ⟨b1, o1, hAe, hb1, hc1⟩ := (HA.out.below b0) (by omega)
      subst hAe
      have hcell := hc1 k hlt
      obtain ⟨x1, x2⟩ := HXA.out k hlt
      have hsp : ∀ j, j < b.length → SLp p a b k (j + 1) = SLp p a b k j ++ [(geti a k + geti b j) % p] := fun j hj => SLp_step p a b k hj
      have HSP := Lib.hid hsp
      have HNX := Lib.hid (SLp_next p a b hlt)
      generalize geti a k = x at *
      clear hsp hc1
      go_wp2
      go_loopw [23] (fun i wr => ∃ j : Nat, j ≤ b.length ∧ i = .int .i64 j ∧ Row wr w.heap.size 101 (hasV (SLp p a b k j)) ∧ Below w.heap.size w wr) (fun i _ => b.length - (intOf i).toNat)
      case atStart => exact ⟨0, by omega, rfl, r0, b0⟩
      case round =>
        clear r0 b0 hcell hb1
        obtain ⟨j, hj, rfl, r0, b0⟩ := hrel
        by_cases hjt : j < b.length
        · obtain ⟨b2, o2, hBe, hb2, hc2⟩ := (HB.out.below b0) (by omega)
          subst hBe
          have hcell2 := hc2 j hjt
          obtain ⟨y1, y2⟩ := HXB.out j hjt
          have hst := HSP.out j hjt
          have hmn : ∃ s : Nat, (x + geti b j) % p = s := ⟨((x + geti b j) % p).toNat, by have := Int.emod_nonneg (x + geti b j) (b := p) (by omega); omega⟩
          obtain ⟨s, hs⟩ := hmn
          have hsl : s < 97 := by have := Int.emod_lt_of_pos (x + geti b j) (b := p) (by omega); omega
          rw [hs] at hst
          have HST : Hid ((hasV (SLp p a b k j)).set s (.bool true) = hasV (SLp p a b k (j + 1))) := Lib.hid (by rw [hasV_set _ hsl, hst])
          generalize geti b j = y at *
          have hc3 := r0.cell s
          rw [hasV_at _ hsl] at hc3
          have hf3 := r0.free s
          clear hst hc2
          go_wp2
          go_roundw
          case rel => exact ⟨j + 1, by omega, by go_num, by rw [← HST.out]; exact r0.set s _, b0.setCell (Nat.le_refl _) _⟩
          case measure => simp [intOf]; omega
        · obtain rfl : j = b.length := by omega
          rw [HNX.out] at r0
          go_wp2
          go_roundw
          case rel => exact ⟨k + 1, by omega, by go_num, r0, b0⟩
          case measure => simp [intOf]; omega
    · obtain rfl : k = a.length := by omega
      rw [SLp_all] at r0
      have HSE := Lib.hid (rfl : SL p a b = SL p a b)
      generalize hS : SL p a b = S at *
      have HS := Lib.hid hS
      clear hS HSE
      have hi : (Try.prog.info? 101).map (·.size) = some (hasV S).toArray.size := by rw [List.size_toArray, hasV_len]; exact info101
      have hix := index101 S
      go_wp2_with (refine wpList_load_row rfl 101 (.tmp 7) rfl w.heap.size rfl 101 (hasV S).toArray (0, 0) _ (row_heap r0) Try.underlying101 rfl hi ?_)
      have o0 : wr.ownsRow w.heap.size 3 1 (.slice none 0 0) (colL S 0).length (iv (colL S 0)) := ⟨by simp [colL, iv], .inl ⟨rfl, by simp [colL]⟩⟩
      obtain ⟨j0, ji, jz0, jz1, jz2⟩ := info_parts info3
      clear r0
      go_loopw [12, 36] (fun v i wr => ∃ k : Nat, k ≤ 97 ∧ i = .int .i64 k ∧ wr.ownsRow w.heap.size 3 1 v (colL S k).length (iv (colL S k)) ∧ Below w.heap.size w wr) (fun _ i _ => 97 - (intOf i).toNat)
      case atStart => exact ⟨0, by omega, rfl, o0, b0⟩
      case round =>
        clear o0 b0
        obtain ⟨k, hk, rfl, o0, b0⟩ := hrel
        by_cases hkt : k < 97
        · have hx := hix k hkt
          have hcl := colL_len S k
          by_cases hin : (k : Int) ∈ S
          · have HC := Lib.hid (colL_yes S hin)
            rw [decide_eq_true hin] at hx
            obtain ⟨A2, c2, e2, -, -, -⟩ := own_intsI o0
            subst e2
            have hnr : Row (wr.alloc (.cells #[.int .i64 k] 3)) wr.heap.size 3 [.int .i64 k] := row_new rfl
            have hbs := b0.size
            generalize colL S k = P at *
            generalize hP2 : colL S (k + 1) = P2 at *
            have HP2 := Lib.hid hP2
            clear hP2
            clear hin hix
            go_wp2_with (at_builtin; refine wpList_append_own_at _ rfl (.tmp 41) (.tmp 43) 22 rfl w.heap.size 3 j0 (.int .i64 0) 1 8 Try.underlying22 ji jz0 jz1 jz2 rfl (by decide) _ _ _ rfl (o0.alloc _) ⟨wr.heap.size, 0, none⟩ 1 1 [.int .i64 (k : Int)] rfl rfl (news_one hnr) (by simp [Value.oneCell']) (by unfold maxLen; omega) (by omega) (by simp; omega) ?_; intro v2 w2 o2 hg2 _ _)
            have b2 := b0.trans (app1' o0 hbs hg2)
            have o3 : w2.ownsRow w.heap.size 3 1 v2 P2.length (iv P2) := by
              rw [HC.out, iv_snoc]; simpa using o2
            go_roundw
            case rel => exact ⟨k + 1, by omega, by go_num, by rw [HP2.out]; exact o3, b2⟩
            case measure => simp [intOf]; omega
          · have HC := Lib.hid (colL_no S hin)
            rw [decide_eq_false hin] at hx
            clear hin hix
            go_wp2
            go_roundw
            case rel => exact ⟨k + 1, by omega, by go_num, by rw [HC.out]; exact o0, b0⟩
            case measure => simp [intOf]; omega
        · obtain rfl : k = 97 := by omega
          obtain ⟨A2, c2, e2, -, -, -⟩ := own_intsI o0
          subst e2
          go_wp2
          go_ret
          exact ⟨.slice A2 _ c2, rfl, by rw [HS.out]; exact o0, b0⟩
/-- Both. -/
def bothOk (p : Int) (a b : List Int) : Bool := prV p && stV p a && stV p b
def bothL (p : Int) (a b : List Int) : List Int := colL (SL p a b) 97
def OwnR (w : World) (xs : List Int) (e : Ending) (w' : World) : Prop := ∃ v, e = .returned (.tuple #[v, .int .i64 0]) ∧ w'.ownsRow w.heap.size 3 1 v xs.length (iv xs) ∧ Below w.heap.size w w'
theorem stV_rng {p : Int} {xs : List Int} (h : stV p xs = true) : ∀ i, i < xs.length → 0 ≤ geti xs i ∧ geti xs i < p := fun i hi => ((of_decide_eq_true h).2 i hi).1
theorem Both_bad (p : Int) (A B : Option Addr) (c d : Nat) (a b : List Int) (w : World) (hla : a.length ≤ 1000000) (hlb : b.length ≤ 1000000) (ha : IntsAt w A a) (hb : IntsAt w B b) (hv : bothOk p a b = false) :
    Calls Try.prog 35 #[.int .i64 p, .slice A a.length c, .slice B b.length d] w (NoneR w 2) := by
  unfold bothOk at hv
  have HA := Lib.hid ha
  have HB := Lib.hid hb
  clear ha hb
  cases h1 : prV p
  · have HP := Lib.hid h1
    clear h1 hv
    go_enter Try.func35, Try.ntmps35
    go_wp2_with (first | (go_at_call 61; with_reducible refine (isPrime_any p _).mono ?_; rintro e w1 ⟨he, rfl⟩; rw [HP.out] at he; subst he))
    go_ret2
    exact ⟨rfl, Below.refl _ _⟩
  · have hp97 : p ≤ 97 := (of_decide_eq_true h1).2.1
    have HP := Lib.hid h1
    cases h2 : stV p a
    · have HS := Lib.hid h2
      clear h1 h2 hv
      go_enter Try.func35, Try.ntmps35
      go_wp2_with (first
        | (go_at_call 61; with_reducible refine (isPrime_any p _).mono ?_; rintro e w1 ⟨he, rfl⟩; rw [HP.out] at he; subst he)
        | (go_at_call 62; with_reducible refine (isSet_any p A c a _ hp97 hla HA.out).mono ?_; rintro e w1 ⟨he, hb1⟩; rw [HS.out] at he; subst he))
      go_ret2
      exact ⟨rfl, hb1⟩
    · have h3 : stV p b = false := by rw [h1, h2] at hv; simpa using hv
      have HS := Lib.hid h2
      have HT := Lib.hid h3
      clear h1 h2 hv h3
      go_enter Try.func35, Try.ntmps35
      go_wp2_with (first
        | (go_at_call 61; with_reducible refine (isPrime_any p _).mono ?_; rintro e w1 ⟨he, rfl⟩; rw [HP.out] at he; subst he)
        | (go_at_call 62; fail))
      refine (isSet_any p A c a _ hp97 hla HA.out).mono ?_
      rintro e w1 ⟨he, hb1⟩
      rw [HS.out] at he
      subst he
      have HB1 := Lib.hid (HB.out.below hb1)
      go_wp2_with (go_at_call 62; fail)
      refine (isSet_any p B d b _ hp97 hlb HB1.out).mono ?_
      rintro e w2 ⟨he, hb2⟩
      rw [HT.out] at he
      subst he
      go_wp2
      go_ret2
      exact ⟨rfl, hb1.trans (hb2.mono hb1.size)⟩
theorem Both_go (p : Int) (A B : Option Addr) (c d : Nat) (a b : List Int) (w : World) (hla : a.length ≤ 1000000) (hlb : b.length ≤ 1000000) (ha : IntsAt w A a) (hb : IntsAt w B b) (hv : bothOk p a b = true) :
    Calls Try.prog 35 #[.int .i64 p, .slice A a.length c, .slice B b.length d] w (OwnR w (bothL p a b)) := by
  unfold bothOk at hv
  simp only [Bool.and_eq_true] at hv
  obtain ⟨⟨h1, h2⟩, h3⟩ := hv
  have HA := Lib.hid ha
  have HB := Lib.hid hb
  have hp97 : p ≤ 97 := (of_decide_eq_true h1).2.1
  have hp1 : 1 ≤ p := by have := (of_decide_eq_true h1).1; omega
  have HP := Lib.hid h1
  have HS := Lib.hid h2
  have HT := Lib.hid h3
  have HRA := Lib.hid (stV_rng h2)
  have HRB := Lib.hid (stV_rng h3)
  clear h1 h2 h3 ha hb
  go_enter Try.func35, Try.ntmps35
  go_wp2_with (first
    | (go_at_call 61; with_reducible refine (isPrime_any p _).mono ?_; rintro e w1 ⟨he, rfl⟩; rw [HP.out] at he; subst he)
    | (go_at_call 62; fail))
  refine (isSet_any p A c a _ hp97 hla HA.out).mono ?_
  rintro e w1 ⟨he, hb1⟩
  rw [HS.out] at he
  subst he
  have HA1 := Lib.hid (HA.out.below hb1)
  have HB1 := Lib.hid (HB.out.below hb1)
  go_wp2_with (go_at_call 62; fail)
  refine (isSet_any p B d b _ hp97 hlb HB1.out).mono ?_
  rintro e w2 ⟨he, hb2⟩
  rw [HT.out] at he
  subst he
  have HA2 := Lib.hid (HA1.out.below hb2)
  have HB2 := Lib.hid (HB1.out.below hb2)
  have b2 := hb1.trans (hb2.mono hb1.size)
  go_wp2_with (go_at_call 63; fail)
  refine (setSums_any p A B c d a b _ ⟨hp1, hp97⟩ hla hlb HA2.out HB2.out HRA.out HRB.out).mono ?_
  rintro e w3 ⟨v, rfl, ho, hb3⟩
  go_wp2
  go_ret2
  exact ⟨v, rfl, own_mono ho b2.size, b2.trans (hb3.mono b2.size)⟩
end Go.Proofs.Ytokjdadgdfmffaa
