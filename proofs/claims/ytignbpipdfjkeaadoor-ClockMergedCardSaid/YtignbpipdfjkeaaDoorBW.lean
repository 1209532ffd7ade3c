/- ClockMerged walked. -/
import Derived.Test.YtignbpipdfjkeaaDoorBV
import Derived.Test.YtignbpipdfjkeaaDoorBP
import Derived.Test.YtignbpipdfjkeaaDoorBE
import Derived.Test.YtignbpipdfjkeaaDoorMH
import Derived.Test.YtignbpipdfjkeaaDoorAU
namespace Go.Proofs.YtignbpipdfjkeaaDoor
open Go.RowKit Go.PlainAid
set_option maxHeartbeats 2000000
set_option maxRecDepth 100000
/-- All pairs below. -/
def allP (g : Nat → Nat → Bool) (p : Nat) : Bool := (List.range p).all fun a => (List.range (a + 1)).all (g a)
def allQ (g : Nat → Nat → Bool) (p q : Nat) : Bool := allP g p && (List.range q).all (g p)
theorem allQ_zero (g : Nat → Nat → Bool) (p : Nat) : allQ g p 0 = allP g p := by simp [allQ]
theorem allQ_succ (g : Nat → Nat → Bool) (p q : Nat) : allQ g p (q + 1) = (allQ g p q && g p q) := by
  unfold allQ; rw [List.range_succ, List.all_append, Bool.and_assoc]; simp
theorem allP_succ (g : Nat → Nat → Bool) (p : Nat) : allP g (p + 1) = allQ g p (p + 1) := by
  unfold allQ allP; rw [List.range_succ (n := p), List.all_append]; simp [List.range_succ (n := p)]
theorem allP_iff {g : Nat → Nat → Bool} {n : Nat} (hg : ∀ p q, g p q = g q p) : allP g n = true ↔ ∀ p q, p < n → q < n → g p q = true := by
  unfold allP
  rw [List.all_eq_true]
  constructor
  · intro h p q hp hq
    rcases Nat.lt_or_ge p q with h1 | h1
    · rw [hg]
      exact List.all_eq_true.1 (h q (List.mem_range.2 hq)) p (List.mem_range.2 (by omega))
    · exact List.all_eq_true.1 (h p (List.mem_range.2 hp)) q (List.mem_range.2 (by omega))
  · intro h p hp
    rw [List.all_eq_true]
    exact fun q hq => h p q (List.mem_range.1 hp) (by have := List.mem_range.1 hq; have := List.mem_range.1 hp; omega)
theorem cmd_walk (A : Option Addr) (c m n : Nat) (w : World) (M : List (List Int)) (S : Nat → Nat → ByteArray) (E : Nat → Nat → Int) (g : Nat → Nat → Bool) (I : Nat → Nat → Nat) (RS : ByteArray) (RQ RE : Int)
    (HT : Hid (Calls Tryd.prog 44 #[.slice A m c] w (TabM w M))) (hn : nS M = n) (hn9 : n ≤ 9) (hk1 : 1 ≤ M.length)
    (HAW : Hid (∀ V, Below w.heap.size w V → Calls Tryd.prog 22 #[] V fun e w' => e = .returned (.bool true) ∧ Below V.heap.size V w'))
    (HR : Hid (∀ V A c, Below w.heap.size w V → RowsAt V A M → Calls Tryd.prog 17 #[.slice A M.length c] V fun e w' => e = .returned (.tuple #[.string RS, .int .i64 RQ, .int .i64 RE]) ∧ Below V.heap.size V w'))
    (hre : (allP g n == (RE == 0)) = true)
    (HM : Hid (∀ p q V A c, p < n → q < n → Below w.heap.size w V → RowsAt V A M → Calls Tryd.prog 29 #[.slice A M.length c, .int .i64 (p : Nat), .int .i64 (q : Nat)] V fun e w' => e = .returned (.tuple #[.string (S p q), .int .i64 (E p q)]) ∧ Below V.heap.size V w'))
    (HS : Hid (∀ p q, S p q = S q p ∧ E p q = E q p))
    (HE : Hid (∀ p q, p < n → q < n → (g p q = true → E p q = 0) ∧ (g p q = false → E p q = 6) ∧ (p = q → g p q = true ∧ S p q = ⟨#[]⟩)))
    (HW : Hid (∀ p q V A c, p < n → q < n → g p q = true → Calls Tryd.prog 34 #[.slice A M.length c, .string (S p q)] V fun e w' => e = .returned (.bool true) ∧ V = w'))
    (HI : Hid (∀ p q V A c, p < n → q < n → g p q = true → RowsAt V A M → Calls Tryd.prog 35 #[.slice A M.length c, .int .i64 (bits BinOp.or IntKind.i64 (wrap64 ((2 : Int) ^ p)) (wrap64 ((2 : Int) ^ q))), .string (S p q)] V fun e w' => e = .returned (.int .i64 (I p q : Nat)) ∧ Below V.heap.size V w'))
    (HZ : Hid (∀ p q V, p < n → q < n → g p q = true → Calls Tryd.prog 45 #[.int .i64 (I p q : Nat)] V fun e w' => e = .returned (.int .i64 1) ∧ Below V.heap.size V w')) :
    Calls Tryd.prog 12 #[.slice A m c] w fun e w' => e = .returned (.bool true) ∧ Below w.heap.size w w' := by
  have b0 := Below.refl w.heap.size w
  have Hn := Lib.hid hn
  clear hn
  go_enter Tryd.func12, Tryd.ntmps12
  go_wp2_with (first
    | (go_at_call 44; refine HT.out.mono ?_; rintro e w1 ⟨A1, c1, rfl, ra, b1⟩; replace b0 := b1; have ra0 := ra; obtain ⟨bA, oA, hA, hbA, hcA⟩ := ra0 hk1; subst hA; obtain ⟨B0, c00, d0, -⟩ := hcA 0 hk1; rw [show (getl M 0).length = nS M from rfl, Hn.out, Nat.add_zero] at d0; clear hcA)
    | (go_at_call 17; refine (HR.out _ _ _ b0 ra).mono ?_; rintro e w2 ⟨rfl, b2⟩; replace b0 := b0.trans (b2.mono b0.size); replace ra := ra.below b2))
  clear d0 HT HR
  go_loopw [8, 9] (fun a i wr => ∃ p : Nat, i = .int .i64 p ∧ p ≤ n ∧ a = .bool (allP g p) ∧ RowsAt wr (some ⟨bA, oA, none⟩) M ∧ Below w.heap.size w wr) (fun _ i _ => n - (intOf i).toNat)
  case atStart => exact ⟨0, rfl, by omega, rfl, ra, b0⟩
  case round =>
    clear ra b0
    obtain ⟨p, rfl, hp, rfl, ra, b0⟩ := hrel
    by_cases hlt : p < n
    · have g1 : decide (p < n) = true := decide_eq_true hlt
      have HQ0 := Lib.hid (allQ_zero g p)
      have HQ1 := Lib.hid (allP_succ g p)
      have HQS := Lib.hid (allQ_succ g p)
      clear hre
      go_wp2
      go_loopw [8, 10] (fun a i wr => ∃ q : Nat, i = .int .i64 q ∧ q ≤ p + 1 ∧ a = .bool (allQ g p q) ∧ RowsAt wr (some ⟨bA, oA, none⟩) M ∧ Below w.heap.size w wr) (fun _ i _ => p + 1 - (intOf i).toNat)
      case atStart => exact ⟨0, rfl, by omega, by rw [HQ0.out], ra, b0⟩
      case round =>
        clear ra b0 HQ0
        obtain ⟨q, rfl, hq, rfl, ra, b0⟩ := hrel
        by_cases hle : q ≤ p
        · have g2 : decide (q ≤ p) = true := decide_eq_true hle
          have hqn : q < n := by omega
          have HM1 := Lib.hid (fun V A c => HM.out p q V A c hlt hqn)
          have HM2 := Lib.hid (fun V A c => HM.out q p V A c hqn hlt)
          rw [(HS.out q p).1, (HS.out q p).2] at HM2
          obtain ⟨E1, E2, E3⟩ := HE.out p q hlt hqn
          have HQ2 := Lib.hid (HQS.out q)
          cases hg : g p q
          · rw [E2 hg] at HM1 HM2
            have hpq : ((p : Int) == (q : Int)) = false := by
              rw [beq_eq_false_iff_ne]
              intro e
              have := (E3 (by omega)).1
              rw [hg] at this
              cases this
            rw [hg, Bool.and_false] at HQ2
            clear E1 E2 E3 hg
            generalize S p q = s at *
            go_wp2_with (go_at_call 29; first
              | ((with_reducible refine (HM1.out _ _ _ b0 ra).mono ?_); rintro e w3 ⟨rfl, b3⟩; replace b0 := b0.trans (b3.mono b0.size); replace ra := ra.below b3)
              | ((with_reducible refine (HM2.out _ _ _ b0 ra).mono ?_); rintro e w3 ⟨rfl, b3⟩; replace b0 := b0.trans (b3.mono b0.size); replace ra := ra.below b3))
            go_roundw
            case rel => exact ⟨q + 1, by go_num, by omega, by rw [HQ2.out], ra, b0⟩
            case measure => simp [intOf]; omega
          · rw [E1 hg] at HM1 HM2
            have HW1 := Lib.hid (fun V A c => HW.out p q V A c hlt hqn hg)
            have HI1 := Lib.hid (fun V A c => HI.out p q V A c hlt hqn hg)
            have HZ1 := Lib.hid (fun V => HZ.out p q V hlt hqn hg)
            rw [hg, Bool.and_true] at HQ2
            by_cases hpq : p = q
            · have hs := (E3 hpq).2
              have g3 : ((p : Int) == (q : Int)) = true := by rw [beq_iff_eq, hpq]
              rw [hs] at HM1 HM2 HW1 HI1
              clear E1 E2 E3 hg hs hpq
              generalize I p q = t at *
              go_wp2_with (go_at_call 29; first
                | ((with_reducible refine (HM1.out _ _ _ b0 ra).mono ?_); rintro e w3 ⟨rfl, b3⟩; replace b0 := b0.trans (b3.mono b0.size); replace ra := ra.below b3)
                | ((with_reducible refine (HM2.out _ _ _ b0 ra).mono ?_); rintro e w3 ⟨rfl, b3⟩; replace b0 := b0.trans (b3.mono b0.size); replace ra := ra.below b3))
              have HW2 := Lib.hid (fun (u : After w3) => (HW1.out u.v (some ⟨bA, oA, none⟩) c1).mono (fun e w' (h : _ ∧ u.v = w') => (⟨h.1, h.2 ▸ Below.refl _ _⟩ : e = .returned (.bool true) ∧ Below u.v.heap.size u.v w')))
              have HI2 := Lib.hid (fun (u : After w3) => HI1.out u.v (some ⟨bA, oA, none⟩) c1 (ra.below u.h))
              have HZ2 := Lib.hid (fun (u : After w3) => HZ1.out u.v)
              refine wp_region_class_all (C := fun w' => ∃ u : After _, w' = u.v) (by kernel_rfl) (by kernel_rfl) (isAfter_start _) ?_
              try simp only [Act.put]
              repeat (go_big_quiet_step ((first | (with_reducible refine (HW2.out _).mono ?_; rintro e w8 ⟨rfl, b8⟩; exact ⟨rfl, After.done _ b8⟩) | (with_reducible refine (HI2.out _).mono ?_; rintro e w8 ⟨rfl, b8⟩; exact ⟨rfl, After.done _ b8⟩) | (with_reducible refine (HZ2.out _).mono ?_; rintro e w8 ⟨rfl, b8⟩; exact ⟨rfl, After.done _ b8⟩))))
              refine wpQuiet_nil ?_
              rintro _ ⟨ua, rfl⟩
              go_wp2
              go_roundw
              case rel => exact ⟨q + 1, by go_num, by omega, by rw [HQ2.out], ra.below ua.h, b0.trans (ua.h.mono b0.size)⟩
              case measure => simp [intOf]; omega
            · have g3 : ((p : Int) == (q : Int)) = false := by rw [beq_eq_false_iff_ne]; omega
              clear E1 E2 E3 hg hpq
              generalize S p q = s at *
              generalize I p q = t at *
              go_wp2_with (go_at_call 29; first
                | ((with_reducible refine (HM1.out _ _ _ b0 ra).mono ?_); rintro e w3 ⟨rfl, b3⟩; replace b0 := b0.trans (b3.mono b0.size); replace ra := ra.below b3)
                | ((with_reducible refine (HM2.out _ _ _ b0 ra).mono ?_); rintro e w3 ⟨rfl, b3⟩; replace b0 := b0.trans (b3.mono b0.size); replace ra := ra.below b3))
              have HW2 := Lib.hid (fun (u : After w3) => (HW1.out u.v (some ⟨bA, oA, none⟩) c1).mono (fun e w' (h : _ ∧ u.v = w') => (⟨h.1, h.2 ▸ Below.refl _ _⟩ : e = .returned (.bool true) ∧ Below u.v.heap.size u.v w')))
              have HI2 := Lib.hid (fun (u : After w3) => HI1.out u.v (some ⟨bA, oA, none⟩) c1 (ra.below u.h))
              have HZ2 := Lib.hid (fun (u : After w3) => HZ1.out u.v)
              refine wp_region_class_all (C := fun w' => ∃ u : After _, w' = u.v) (by kernel_rfl) (by kernel_rfl) (isAfter_start _) ?_
              try simp only [Act.put]
              repeat (go_big_quiet_step ((first | (with_reducible refine (HW2.out _).mono ?_; rintro e w8 ⟨rfl, b8⟩; exact ⟨rfl, After.done _ b8⟩) | (with_reducible refine (HI2.out _).mono ?_; rintro e w8 ⟨rfl, b8⟩; exact ⟨rfl, After.done _ b8⟩) | (with_reducible refine (HZ2.out _).mono ?_; rintro e w8 ⟨rfl, b8⟩; exact ⟨rfl, After.done _ b8⟩))))
              refine wpQuiet_nil ?_
              rintro _ ⟨ua, rfl⟩
              go_wp2
              go_roundw
              case rel => exact ⟨q + 1, by go_num, by omega, by rw [HQ2.out], ra.below ua.h, b0.trans (ua.h.mono b0.size)⟩
              case measure => simp [intOf]; omega
        · obtain rfl : q = p + 1 := by omega
          have g2 : decide (p + 1 ≤ p) = false := decide_eq_false (by omega)
          go_wp2
          go_roundw
          case rel => exact ⟨p + 1, by go_num, by omega, by rw [HQ1.out], ra, b0⟩
          case measure => simp [intOf]; omega
    · obtain rfl : p = n := by omega
      have g1 : decide (p < p) = false := decide_eq_false hlt
      clear HM HS HE HW HI HZ
      go_wp2_with (go_at_call 22; refine (HAW.out _ b0).mono ?_; rintro e w4 ⟨rfl, b4⟩; replace b0 := b0.trans (b4.mono b0.size))
      go_ret
      exact ⟨rfl, b0⟩
def mgS (M : List (List Int)) (p q : Nat) : ByteArray := if szS (shP M p q).1 = 1 then wS (shP M p q).2 else ⟨#[]⟩
def mgE (M : List (List Int)) (p q : Nat) : Int := if szS (shP M p q).1 = 1 then 0 else 6
def mgG (M : List (List Int)) (p q : Nat) : Bool := decide (szS (shP M p q).1 = 1)
theorem shP_comm (M : List (List Int)) (p q : Nat) : shP M p q = shP M q p := by unfold shP; rw [sg_comm]
theorem mg_word {M : List (List Int)} {p q : Nat} (h : IsMI M) (hp : p < nS M) (hq : q < nS M) (hg : mgG M p q = true) :
    okB M.length (mgS M p q) = true ∧ (mgS M p q).size ≤ 1000000 ∧ szS (imP (tabN M) (sg p q) (mgS M p q) (mgS M p q).size) = 1 := by
  have e := of_decide_eq_true hg
  obtain ⟨s1, s2, -⟩ := sg_set h.n9 hp hq
  obtain ⟨h1, h2⟩ := sh_im h.isM s1
  have hl := sh_len h.isM s1
  have hk := h.k4
  have e2 : mgS M p q = wS (shP M p q).2 := by unfold mgS; rw [if_pos e]
  rw [e2]
  refine ⟨okB_wS hk h1 (by unfold shP; omega), by rw [wS_len]; unfold shP; omega, ?_⟩
  rw [imP_all (tabN M) (sg p q) (fun b hb => by have := h1 b hb; omega)]
  show szS (img (tabN M) (sg p q) (shE (tabN M) M.length (sg p q)).2) = 1
  rw [h2]
  exact e
theorem clockMerged_any (A : Option Addr) (c : Nat) (L : List (List Int)) (w : World) (ht : TabW w) (hx : L.length ≤ c) (hc : c ≤ maxLen) (ha : RowsIn w A L) :
    Calls Tryd.prog 12 #[.slice A L.length c] w fun e w' => e = .returned (.bool true) ∧ Below w.heap.size w w' := by
  obtain ⟨M, h, hT⟩ := tame_any A c L w hx hc ha
  have HAW := Lib.hid (fun (V : World) (hV : Below w.heap.size w V) => awake_any V (ht.below hV ht.lt))
  have hn9 := h.n9
  have hall : allP (mgG M) (nS M) = (rsX M).isSome := by
    rw [Bool.eq_iff_iff, allP_iff (fun p q => by unfold mgG; rw [shP_comm])]
    have := reset_pairs (T := tabN M) (k := M.length) h.isM
    show _ ↔ (seek (tabN M) M.length (2 ^ nS M - 1) (few 1)).isSome = true
    rw [this]
    unfold mgG shP
    simp only [decide_eq_true_eq]
  have HM : Hid (∀ p q V A c, p < nS M → q < nS M → Below w.heap.size w V → RowsAt V A M → Calls Tryd.prog 29 #[.slice A M.length c, .int .i64 (p : Nat), .int .i64 (q : Nat)] V fun e w' => e = .returned (.tuple #[.string (mgS M p q), .int .i64 (mgE M p q)]) ∧ Below V.heap.size V w') :=
    Lib.hid (fun p q V A c hp hq hV ha => Merge_yes A c M p q V h ha (ht.below hV ht.lt) hp hq)
  have HS : Hid (∀ p q, mgS M p q = mgS M q p ∧ mgE M p q = mgE M q p) := Lib.hid (fun p q => ⟨by unfold mgS; rw [shP_comm], by unfold mgE; rw [shP_comm]⟩)
  have HE : Hid (∀ p q, p < nS M → q < nS M → (mgG M p q = true → mgE M p q = 0) ∧ (mgG M p q = false → mgE M p q = 6) ∧ (p = q → mgG M p q = true ∧ mgS M p q = ⟨#[]⟩)) := Lib.hid (fun p q hp hq => by
    refine ⟨fun hg => ?_, fun hg => ?_, ?_⟩
    · unfold mgE; rw [if_pos (of_decide_eq_true hg)]
    · unfold mgE; rw [if_neg (of_decide_eq_false hg)]
    · rintro rfl
      obtain ⟨e1, e2⟩ := sh_same (T := tabN M) (k := M.length) h.isM hp
      exact ⟨decide_eq_true e1, by unfold mgS; rw [if_pos (show szS (shP M p p).1 = 1 from e1), show (shP M p p).2 = [] from e2]; rfl⟩)
  have HW : Hid (∀ p q V A c, p < nS M → q < nS M → mgG M p q = true → Calls Tryd.prog 34 #[.slice A M.length c, .string (mgS M p q)] V fun e w' => e = .returned (.bool true) ∧ V = w') := Lib.hid (fun p q V A c hp hq hg => by
    obtain ⟨h1, h2, -⟩ := mg_word h hp hq hg
    have := refWord_any A c M.length (mgS M p q) V h2 (by have := h.k4; omega)
    rwa [h1] at this)
  have HI : Hid (∀ p q V A c, p < nS M → q < nS M → mgG M p q = true → RowsAt V A M → Calls Tryd.prog 35 #[.slice A M.length c, .int .i64 (bits BinOp.or IntKind.i64 (wrap64 ((2 : Int) ^ p)) (wrap64 ((2 : Int) ^ q))), .string (mgS M p q)] V fun e w' => e = .returned (.int .i64 (imP (tabN M) (sg p q) (mgS M p q) (mgS M p q).size : Nat)) ∧ Below V.heap.size V w') := Lib.hid (fun p q V A c hp hq hg ha => by
    obtain ⟨h1, -, -⟩ := mg_word h hp hq hg
    rw [or_pows (by omega) (by omega)]
    exact refImage_any A c M (sg p q) (mgS M p q) V h ha (sg_set h.n9 hp hq).1 h1)
  have HZ : Hid (∀ p q V, p < nS M → q < nS M → mgG M p q = true → Calls Tryd.prog 45 #[.int .i64 (imP (tabN M) (sg p q) (mgS M p q) (mgS M p q).size : Nat)] V fun e w' => e = .returned (.int .i64 1) ∧ Below V.heap.size V w') := Lib.hid (fun p q V hp hq hg => by
    obtain ⟨h1, -, h3⟩ := mg_word h hp hq hg
    have := refSize_any (imP (tabN M) (sg p q) (mgS M p q) (mgS M p q).size) V (set512 h.n9 (imP_set h.isM (sg_set h.n9 hp hq).1 (okB_at h1).2))
    rwa [h3] at this)
  have HRS := fun (V : World) A c (hV : Below w.heap.size w V) ha => Reset_yes A c M V h ha (ht.below hV ht.lt)
  cases hX : rsX M with
  | none =>
    rw [hX] at HRS hall
    exact cmd_walk A c L.length (nS M) w M (mgS M) (mgE M) (mgG M) _ ⟨#[]⟩ 0 6 (Lib.hid (hT w (Below.refl _ w))) rfl hn9 h.k1 HAW (Lib.hid (fun V A c hV ha => HRS V A c hV ha)) (by rw [hall]; rfl) HM HS HE HW HI HZ
  | some r =>
    obtain ⟨t, x⟩ := r
    rw [hX] at HRS hall
    exact cmd_walk A c L.length (nS M) w M (mgS M) (mgE M) (mgG M) _ (wS x) (tzS t) 0 (Lib.hid (hT w (Below.refl _ w))) rfl hn9 h.k1 HAW (Lib.hid (fun V A c hV ha => HRS V A c hV ha)) (by rw [hall]; rfl) HM HS HE HW HI HZ
end Go.Proofs.YtignbpipdfjkeaaDoor
