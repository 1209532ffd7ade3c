/- Tables made from any list of lists. -/
import Derived.Test.YtnnaaoobdofooaaRW
import Derived.Test.YtnnaaoobdofooaaRU
namespace Go.Proofs.Ytnnaaoobdofooaa
open Go.RowKit
set_option maxHeartbeats 1000000
set_option maxRecDepth 100000
/-- A number that is tamed. -/
def tm1 (mo : Nat) (x : Int) : Int := if x < 0 ∨ (mo : Int) < x then (modI x (mo + 1) : Int) else x
def tmV (L : List (List Int)) (mo i k : Nat) : Int := if i < L.length ∧ k < (getl L i).length then tm1 mo (gat L i k) else 0
def tmR (L : List (List Int)) (n mo i k : Nat) : List Int := (List.range n).map fun j => if j < k then tmV L mo i j else 0
def tmP (L : List (List Int)) (n mo m : Nat) : List (List Int) := (List.range m).map fun i => tmR L n mo i n
abbrev tmL (L : List (List Int)) (n mo : Nat) : List (List Int) := tmP L n mo n
theorem tm1_bd (mo : Nat) (x : Int) : 0 ≤ tm1 mo x ∧ tm1 mo x ≤ mo := by
  unfold tm1
  split
  · have := modI_lt x (n := mo + 1) (by omega)
    omega
  · omega
theorem tmR_len (L : List (List Int)) (n mo i k : Nat) : (tmR L n mo i k).length = n := by simp [tmR]
theorem tmR_at (L : List (List Int)) (n mo i k : Nat) {j : Nat} (h : j < n) : geti (tmR L n mo i k) j = if j < k then tmV L mo i j else 0 := geti_map h
theorem tmR_zero (L : List (List Int)) (n mo i : Nat) : tmR L n mo i 0 = List.replicate n 0 := by
  refine ext_geti (by rw [tmR_len]; simp) (fun j hj => ?_)
  rw [tmR_len] at hj
  rw [tmR_at _ _ _ _ _ hj, if_neg (by omega)]
  unfold geti; rw [List.getD_eq_getElem?_getD, List.getElem?_replicate, if_pos hj]; rfl
theorem tmR_step {L : List (List Int)} {n mo i k : Nat} (h : k < n) (h1 : i < L.length) (h2 : k < (getl L i).length) : (tmR L n mo i k).set k (tm1 mo (gat L i k)) = tmR L n mo i (k + 1) := by
  refine ext_geti (by rw [List.length_set, tmR_len, tmR_len]) (fun j hj => ?_)
  rw [List.length_set, tmR_len] at hj
  rw [geti_set (by rw [tmR_len]; exact h), tmR_at _ _ _ _ _ hj, tmR_at _ _ _ _ _ hj]
  by_cases e : k = j
  · subst e
    rw [if_pos rfl, if_pos (by omega)]
    unfold tmV
    rw [if_pos ⟨h1, h2⟩]
  · rw [if_neg e]
    by_cases e2 : j < k
    · rw [if_pos e2, if_pos (by omega)]
    · rw [if_neg e2, if_neg (by omega)]
theorem tmR_end {L : List (List Int)} {n mo i k : Nat} (h : ¬ (k < n ∧ i < L.length ∧ k < (getl L i).length)) : tmR L n mo i k = tmR L n mo i n := by
  refine ext_geti (by rw [tmR_len, tmR_len]) (fun j hj => ?_)
  rw [tmR_len] at hj
  rw [tmR_at _ _ _ _ _ hj, tmR_at _ _ _ _ _ hj, if_pos hj]
  by_cases e : j < k
  · rw [if_pos e]
  · rw [if_neg e]
    unfold tmV
    rw [if_neg (fun h2 => h ⟨by omega, h2.1, by omega⟩)]
theorem tmP_len (L : List (List Int)) (n mo m : Nat) : (tmP L n mo m).length = m := by simp [tmP]
theorem tmP_at (L : List (List Int)) (n mo : Nat) {m i : Nat} (h : i < m) : getl (tmP L n mo m) i = tmR L n mo i n := by
  unfold getl tmP
  rw [List.getD_eq_getElem?_getD, List.getElem?_map, List.getElem?_range h]; rfl
theorem tmP_snoc (L : List (List Int)) (n mo m : Nat) : tmP L n mo (m + 1) = tmP L n mo m ++ [tmR L n mo m n] := by
  unfold tmP
  rw [List.range_succ, List.map_append]; rfl
theorem tmV_bd (L : List (List Int)) (mo i k : Nat) : 0 ≤ tmV L mo i k ∧ tmV L mo i k ≤ mo := by
  unfold tmV
  split
  · exact tm1_bd _ _
  · omega
theorem tmL_isT (L : List (List Int)) {n mo : Nat} (hn : n ≤ 10) (hm : mo ≤ 9) : IsT (tmL L n mo) := okT_iff.1 (okT_all (by rw [tmP_len]; exact hn) (fun i hi => by
  rw [tmP_len] at hi ⊢
  refine ⟨by rw [tmP_at L n mo hi, tmR_len], fun k hk => ?_⟩
  have hb := tmV_bd L mo i k
  unfold gat
  rw [tmP_at L n mo hi, tmR_at _ _ _ _ _ hk, if_pos hk]
  omega))
theorem row_own {W : World} {g B : Nat} {xs : List Int} (h : Row W g 3 (iv xs)) (hB : B ≤ g) (hl : xs.length ≤ maxLen) : W.ownsRow B 3 1 (.slice (some ⟨g, 0, none⟩) xs.length xs.length) xs.length (iv xs) := by
  refine ⟨by rw [iv_len]; omega, .inr ⟨g, xs.length, (iv xs).toArray, rfl, hB, h, Nat.le_refl _, hl, ?_, ?_⟩⟩
  · rw [List.size_toArray, iv_len]; omega
  · show List.take _ (iv xs) = _
    rw [List.take_of_length_le (by rw [iv_len]; omega)]
theorem tame_any (A : Option Addr) (c : Nat) (L : List (List Int)) (n mo : Nat) (w : World) (hn : n ≤ 10) (hm : mo ≤ 9) (ha : RowsIn w A L) :
    Calls Try.prog 44 #[.slice A L.length c, .int .i64 n, .int .i64 mo] w fun e w' => ∃ A' c' cs, e = .returned (.slice A' n c') ∧ w'.ownsRow w.heap.size 27 1 (.slice A' n c') n cs ∧ RowsOwn w' w.heap.size cs (tmL L n mo) ∧ Below w.heap.size w w' := by
  obtain ⟨k0, ki, kz0, kz1, kz2⟩ := info_parts info27
  have HA := Lib.hid ha
  have hmk := make_ints n (by omega)
  have b0 := Below.refl w.heap.size w
  have o0 : w.ownsRow w.heap.size 27 1 (.slice none 0 0) 0 [] := ⟨rfl, .inl ⟨rfl, rfl⟩⟩
  have R0 : Hid (RowsOwn w w.heap.size [] (tmP L n mo 0)) := Lib.hid ⟨rfl, fun j hj => absurd hj (by simp [tmP])⟩
  have HSN := Lib.hid (fun m => tmP_snoc L n mo m)
  have HRL := Lib.hid (fun i k => tmR_len L n mo i k)
  have HRZ := Lib.hid (fun i => tmR_zero L n mo i)
  have HST := Lib.hid (fun i k (h : k < n) h1 h2 => tmR_step (L := L) (n := n) (mo := mo) (i := i) (k := k) h h1 h2)
  have HEN := Lib.hid (fun i k h => tmR_end (L := L) (n := n) (mo := mo) (i := i) (k := k) h)
  have HMO : Hid (∀ (x : Int) (W : World), Calls Try.prog 43 #[.int .i64 x, .int .i64 ((mo : Int) + 1)] W fun e w' => e = .returned (.int .i64 (modI x (mo + 1))) ∧ W = w') := Lib.hid (fun x W => mod_any x (mo + 1) W (by omega) (by omega))
  have HT1 : Hid (∀ x : Int, x < 0 ∨ (mo : Int) < x → (modI x (mo + 1) : Int) = tm1 mo x) := Lib.hid (fun x h => by unfold tm1; rw [if_pos h])
  have HT2 : Hid (∀ x : Int, ¬ (x < 0 ∨ (mo : Int) < x) → x = tm1 mo x) := Lib.hid (fun x h => by unfold tm1; rw [if_neg h])
  clear ha
  go_enter Try.func44, Try.ntmps44
  go_wp2
  go_loopw [7, 8] (fun v i wr => ∃ (k : Nat) (cs : List Value), k ≤ n ∧ i = .int .i64 k ∧ wr.ownsRow w.heap.size 27 1 v k cs ∧ Hid (RowsOwn wr w.heap.size cs (tmP L n mo k)) ∧ Below w.heap.size w wr) (fun _ i _ => n - (intOf i).toNat)
  case atStart => exact ⟨0, [], by omega, rfl, o0, R0, b0⟩
  case round =>
    clear o0 R0 b0
    obtain ⟨i, cs, hi, rfl, o0, HR, b0⟩ := hrel
    obtain ⟨A2, c2, rfl⟩ := own_head o0
    by_cases hlt : i < n
    · have g1 : decide ((i : Int) < (n : Int)) = true := decide_eq_true (by omega)
      obtain ⟨W, hW⟩ : ∃ W, W = wr := ⟨_, rfl⟩
      subst hW
      have n0 : Row (W.alloc (.cells (iv (List.replicate n 0)).toArray 3)) W.heap.size 3 (iv (tmR L n mo i 0)) := by rw [HRZ.out]; exact row_new rfl
      have z0 : Below W.heap.size W (W.alloc (.cells (iv (List.replicate n 0)).toArray 3)) := (Below.refl _ _).alloc (Nat.le_refl _) _
      have HO := Lib.hid o0
      have hbs := b0.size
      clear o0
      go_wp2
      go_loopw [10] (fun v wr2 => ∃ k : Nat, k ≤ n ∧ v = .int .i64 k ∧ Row wr2 W.heap.size 3 (iv (tmR L n mo i k)) ∧ Below W.heap.size W wr2) (fun v _ => n - (intOf v).toNat)
      case atStart => exact ⟨0, by omega, rfl, n0, z0⟩
      case round =>
        clear n0 z0
        obtain ⟨k, hk, rfl, n0, z0⟩ := hrel
        by_cases hkn : k < n
        · have g2 : decide ((k : Int) < (n : Int)) = true := decide_eq_true (by omega)
          by_cases hil : i < L.length
          · have g3 : decide ((i : Int) < (L.length : Int)) = true := decide_eq_true (by omega)
            obtain ⟨bA, oA, hAe, hbA, hcs⟩ := ((HA.out.below b0).below z0) (by omega)
            subst hAe
            obtain ⟨B, cB, e1, -, -, i1⟩ := hcs i hil
            by_cases hkr : k < (getl L i).length
            · have g4 : decide ((k : Int) < ((getl L i).length : Int)) = true := decide_eq_true (by omega)
              obtain ⟨bB, oB, rfl, -, f1⟩ := i1 (by omega)
              have e2 := f1 k hkr
              rw [show geti (getl L i) k = gat L i k from rfl] at e2
              have e3 := ivR n0 (i := k) (by rw [HRL.out]; exact hkn)
              have e4 := n0.free k
              have HST1 := Lib.hid (HST.out i k hkn hil hkr)
              have HM1 := Lib.hid (HMO.out (gat L i k))
              have HV1 := Lib.hid (HT1.out (gat L i k))
              have HV2 := Lib.hid (HT2.out (gat L i k))
              clear hcs i1 f1
              generalize geti (tmR L n mo i k) k = z at *
              generalize gat L i k = x at *
              generalize (getl L i).length = rl at *
              by_cases hx0 : x < 0
              · have g5 : decide (x < 0) = true := decide_eq_true hx0
                have HVS : Hid ((tmR L n mo i k).set k (modI x (mo + 1) : Int) = tmR L n mo i (k + 1)) := Lib.hid (by rw [HV1.out (Or.inl hx0)]; exact HST1.out)
                clear hx0 HV1 HV2
                go_wp2_with (go_at_call 43; refine (HM1.out _).mono ?_; rintro e w5 ⟨rfl, rfl⟩)
                go_roundw
                case rel =>
                  refine ⟨k + 1, by omega, by go_num, ?_, z0.setCell (by dsimp only; omega) _⟩
                  have hq := n0.set k (.int .i64 (modI x (mo + 1) : Int))
                  rw [iv_set, HVS.out] at hq
                  exact hq
                case measure => simp [intOf]; omega
              · have g5 : decide (x < 0) = false := decide_eq_false hx0
                by_cases hx9 : (mo : Int) < x
                · have g6 : decide ((mo : Int) < x) = true := decide_eq_true hx9
                  have HVS : Hid ((tmR L n mo i k).set k (modI x (mo + 1) : Int) = tmR L n mo i (k + 1)) := Lib.hid (by rw [HV1.out (Or.inr hx9)]; exact HST1.out)
                  clear hx0 hx9 HV1 HV2
                  go_wp2_with (go_at_call 43; refine (HM1.out _).mono ?_; rintro e w5 ⟨rfl, rfl⟩)
                  go_roundw
                  case rel =>
                    refine ⟨k + 1, by omega, by go_num, ?_, z0.setCell (by dsimp only; omega) _⟩
                    have hq := n0.set k (.int .i64 (modI x (mo + 1) : Int))
                    rw [iv_set, HVS.out] at hq
                    exact hq
                  case measure => simp [intOf]; omega
                · have g6 : decide ((mo : Int) < x) = false := decide_eq_false hx9
                  have hvv := HV2.out (fun h => h.elim hx0 hx9)
                  have HVS : Hid ((tmR L n mo i k).set k x = tmR L n mo i (k + 1)) := Lib.hid (by have h2 := HST1.out; rw [← hvv] at h2; exact h2)
                  clear hvv HV1 HV2 HM1
                  go_wp2
                  go_roundw
                  case rel =>
                    refine ⟨k + 1, by omega, by go_num, ?_, z0.setCell (by dsimp only; omega) _⟩
                    have hq := n0.set k (.int .i64 x)
                    rw [iv_set, HVS.out] at hq
                    exact hq
                  case measure => simp [intOf]; omega
            · have g4 : decide ((k : Int) < ((getl L i).length : Int)) = false := decide_eq_false (by omega)
              have HNE : Hid (¬ (k < n ∧ i < L.length ∧ k < (getl L i).length)) := Lib.hid (fun h => hkr h.2.2)
              clear hcs i1
              rw [HEN.out i k (HNE.out)] at n0
              have RO := row_own n0 (Nat.le_refl W.heap.size) (by rw [HRL.out]; unfold maxLen; omega)
              rw [HRL.out] at RO
              have RO2 := own_mono RO hbs
              have O4 := Lib.hid (HO.out.kept' z0)
              have hz := z0.size
              have RX : Hid (RowsOwn wr w.heap.size (cs ++ [.slice (some ⟨W.heap.size, 0, none⟩) n n]) (tmP L n mo (i + 1))) := Lib.hid (by rw [HSN.out]; exact (HR.out.below z0).add (by rw [HRL.out]; exact RO2))
              have hnr : Row (wr.alloc (.cells #[.slice (some ⟨W.heap.size, 0, none⟩) n n] 27)) wr.heap.size 27 [.slice (some ⟨W.heap.size, 0, none⟩) n n] := row_new rfl
              clear RO RO2
              go_wp2_with (at_builtin; refine wpList_append_own_at _ rfl _ _ 22 rfl w.heap.size 27 k0 (.slice none 0 0) 1 24 Try.underlying22 ki kz0 kz1 kz2 rfl (by decide) _ _ _ rfl (O4.out.alloc _) ⟨wr.heap.size, 0, none⟩ 1 1 [.slice (some ⟨W.heap.size, 0, none⟩) n n] rfl rfl (news_one hnr) (by simp [Value.oneCell']) (by unfold maxLen; omega) (by omega) (by simp; omega) ?_; intro v9 w9 o9 hg9 _ _)
              have b9 := b0.trans ((z0.mono hbs).trans (app1' O4.out (by omega) hg9))
              have R9 := Lib.hid ((RX.out.below ((Below.refl _ _).alloc (Nat.le_refl _) _)).grown (O4.out.alloc _) (by decide) hg9)
              go_roundw
              case rel => exact ⟨i + 1, _, by omega, by go_num, o9, R9, b9⟩
              case measure => simp [intOf]; omega
          · have g3 : decide ((i : Int) < (L.length : Int)) = false := decide_eq_false (by omega)
            rw [HEN.out i k (fun h => hil h.2.1)] at n0
            have RO := row_own n0 (Nat.le_refl W.heap.size) (by rw [HRL.out]; unfold maxLen; omega)
            rw [HRL.out] at RO
            have RO2 := own_mono RO hbs
            have O4 := Lib.hid (HO.out.kept' z0)
            have hz := z0.size
            have RX : Hid (RowsOwn wr w.heap.size (cs ++ [.slice (some ⟨W.heap.size, 0, none⟩) n n]) (tmP L n mo (i + 1))) := Lib.hid (by rw [HSN.out]; exact (HR.out.below z0).add (by rw [HRL.out]; exact RO2))
            have hnr : Row (wr.alloc (.cells #[.slice (some ⟨W.heap.size, 0, none⟩) n n] 27)) wr.heap.size 27 [.slice (some ⟨W.heap.size, 0, none⟩) n n] := row_new rfl
            clear RO RO2
            go_wp2_with (at_builtin; refine wpList_append_own_at _ rfl _ _ 22 rfl w.heap.size 27 k0 (.slice none 0 0) 1 24 Try.underlying22 ki kz0 kz1 kz2 rfl (by decide) _ _ _ rfl (O4.out.alloc _) ⟨wr.heap.size, 0, none⟩ 1 1 [.slice (some ⟨W.heap.size, 0, none⟩) n n] rfl rfl (news_one hnr) (by simp [Value.oneCell']) (by unfold maxLen; omega) (by omega) (by simp; omega) ?_; intro v9 w9 o9 hg9 _ _)
            have b9 := b0.trans ((z0.mono hbs).trans (app1' O4.out (by omega) hg9))
            have R9 := Lib.hid ((RX.out.below ((Below.refl _ _).alloc (Nat.le_refl _) _)).grown (O4.out.alloc _) (by decide) hg9)
            go_roundw
            case rel => exact ⟨i + 1, _, by omega, by go_num, o9, R9, b9⟩
            case measure => simp [intOf]; omega
        · have g2 : decide ((k : Int) < (n : Int)) = false := decide_eq_false (by omega)
          rw [HEN.out i k (fun h => hkn h.1)] at n0
          have RO := row_own n0 (Nat.le_refl W.heap.size) (by rw [HRL.out]; unfold maxLen; omega)
          rw [HRL.out] at RO
          have RO2 := own_mono RO hbs
          have O4 := Lib.hid (HO.out.kept' z0)
          have hz := z0.size
          have RX : Hid (RowsOwn wr w.heap.size (cs ++ [.slice (some ⟨W.heap.size, 0, none⟩) n n]) (tmP L n mo (i + 1))) := Lib.hid (by rw [HSN.out]; exact (HR.out.below z0).add (by rw [HRL.out]; exact RO2))
          have hnr : Row (wr.alloc (.cells #[.slice (some ⟨W.heap.size, 0, none⟩) n n] 27)) wr.heap.size 27 [.slice (some ⟨W.heap.size, 0, none⟩) n n] := row_new rfl
          clear RO RO2
          go_wp2_with (at_builtin; refine wpList_append_own_at _ rfl _ _ 22 rfl w.heap.size 27 k0 (.slice none 0 0) 1 24 Try.underlying22 ki kz0 kz1 kz2 rfl (by decide) _ _ _ rfl (O4.out.alloc _) ⟨wr.heap.size, 0, none⟩ 1 1 [.slice (some ⟨W.heap.size, 0, none⟩) n n] rfl rfl (news_one hnr) (by simp [Value.oneCell']) (by unfold maxLen; omega) (by omega) (by simp; omega) ?_; intro v9 w9 o9 hg9 _ _)
          have b9 := b0.trans ((z0.mono hbs).trans (app1' O4.out (by omega) hg9))
          have R9 := Lib.hid ((RX.out.below ((Below.refl _ _).alloc (Nat.le_refl _) _)).grown (O4.out.alloc _) (by decide) hg9)
          go_roundw
          case rel => exact ⟨i + 1, _, by omega, by go_num, o9, R9, b9⟩
          case measure => simp [intOf]; omega
    · obtain rfl : i = n := by omega
      have g1 : decide ((i : Int) < (i : Int)) = false := decide_eq_false (by omega)
      go_wp2
      go_ret
      exact ⟨_, _, _, rfl, o0, HR.out, b0⟩
end Go.Proofs.Ytnnaaoobdofooaa
