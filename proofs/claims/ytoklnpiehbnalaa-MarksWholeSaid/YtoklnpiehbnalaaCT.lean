/- MarksWhole walked. -/
import Derived.Test.YtoklnpiehbnalaaCQ
import Derived.Test.YtoklnpiehbnalaaCC
namespace Go.Proofs.Ytoklnpiehbnalaa
open Go.RowKit Go.PlainAid
set_option maxHeartbeats 2000000
set_option maxRecDepth 100000
theorem kept {ms : List (List Nat)} (hm : IsMp ms) (hs : ∀ x, letW 3 x → free x = true → x.length ≤ 5 → free (imW ms x) = true) {x : List Nat} (hx : letW 3 x) (hf : free x = true) : free (imW ms x) = true := by
  rw [sqf_iff] at hf ⊢
  refine keep_all (h := fun c => ms.getD c []) (fun c hc e => ?_) (fun y hy hfy hl => ?_) x hx hf
  · have := hm.one _ (hm.get hc)
    rw [show ms.getD c [] = [] from e] at this
    simp at this
  · exact (sqf_iff _).1 (hs y hy ((sqf_iff y).2 hfy) hl)
/-- The map of the example. -/
def wh0 : List (List Nat) := [[0, 1, 2, 0, 1], [0, 2, 0, 1, 2, 1], [0, 2, 1, 2, 0, 2, 1]]
theorem wh0_map : IsM3 wh0 := by
  have h : ∀ m ∈ wh0, (∀ b, b ∈ m → b < 3) ∧ 1 ≤ m.length ∧ m.length ≤ 12 := by decide
  exact { len := rfl, ok := fun m hm b hb => by have := (h m hm).1 b hb; omega, one := fun m hm => (h m hm).2.1, most := fun m hm => (h m hm).2.2, abc := fun m hm => (h m hm).1 }
theorem wh0_strs : wh0.map wS = [⟨#[97, 98, 99, 97, 98]⟩, ⟨#[97, 99, 97, 98, 99, 98]⟩, ⟨#[97, 99, 98, 99, 97, 99, 98]⟩] := by decide +kernel
theorem wh0_small : ((List.range 6).all fun n => (exts 3 n []).all fun x => free (imW wh0 x)) = true := by decide +kernel
theorem wh0_none : kpX wh0 = none := by
  cases h : kpX wh0 with
  | none => rfl
  | some y =>
    obtain ⟨k1, k2, k3, -, -⟩ := kp_some h
    have := kept wh0_map.toIsMp (fun x hx hf hl => by
      have h1 := List.all_eq_true.1 wh0_small x.length (List.mem_range.2 (by omega))
      exact List.all_eq_true.1 h1 x (exts_in hf hx)) k1 k2
    rw [this] at k3; cases k3
theorem pw_free {ms : List (List Nat)} (hm : IsM3 ms) (hk : kpX ms = none) : ∀ r x P, letW 3 x → free x = true → pwF ms r x = some P → free P = true
  | 0, x, P, _, hf, h => by
    have e : x = P := by simpa [pwF] using h
    rw [← e]; exact hf
  | r + 1, x, P, hx, hf, h => by
    have h2 : (if 2000 < (imW ms x).length then none else pwF ms r (imW ms x)) = some P := h
    by_cases hl : 2000 < (imW ms x).length
    · rw [if_pos hl] at h2; cases h2
    · rw [if_neg hl] at h2
      exact pw_free hm hk r _ P (imW_abc hm hx) (kp_all hm.toIsMp hk hx hf) h2
theorem strs_new (w : World) (s0 s1 s2 : ByteArray) : StrsAt (w.alloc (.cells #[.string s0, .string s1, .string s2] 9)) (some ⟨w.heap.size, 0, none⟩) [s0, s1, s2] := fun _ => by
  have hr : Row (w.alloc (.cells #[.string s0, .string s1, .string s2] 9)) w.heap.size 9 [.string s0, .string s1, .string s2] := row_new rfl
  refine ⟨w.heap.size, 0, rfl, hr.lt, fun i hi => ?_⟩
  rw [Nat.zero_add, hr.cell]
  match i, hi with
  | 0, _ => rfl
  | 1, _ => rfl
  | 2, _ => rfl
theorem free_one (a : Nat) : free [a] = true := by
  rw [sqf_iff]
  intro p u q hu e
  have := congrArg List.length e
  have h1 := lenP hu
  simp at this
  omega
theorem marksWhole_some (A : Option Addr) (n c a : Nat) (b : Int) (y P : ByteArray) (R : List ByteArray) (w : World) (hR : R.length = 3) (hb0 : 0 ≤ b) (hb1 : b < 256) (ha : (b % 3).toNat = a) (hP : P.size ≤ 2000)
    (H1 : Hid (∀ V A c, StrsAt V A [⟨#[97, 98, 99, 97, 98]⟩, ⟨#[97, 99, 97, 98, 99, 98]⟩, ⟨#[97, 99, 98, 99, 97, 99, 98]⟩] → Calls Try.prog 46 #[.slice A 3 c, .int .u8 (97 + (a : Int)), .int .i64 3] V fun e w' => e = .returned (.tuple #[.string P, .int .i64 0]) ∧ Below V.heap.size V w'))
    (H2 : Hid (∀ V A c, StrsAt V A [⟨#[97, 98, 99, 97, 98]⟩, ⟨#[97, 99, 97, 98, 99, 98]⟩, ⟨#[97, 99, 98, 99, 97, 99, 98]⟩] → Calls Try.prog 41 #[.slice A 3 c] V fun e w' => e = .returned (.tuple #[.string ⟨#[]⟩, .int .i64 6]) ∧ Below V.heap.size V w'))
    (H3 : Hid (∀ V, Calls Try.prog 53 #[.string P] V fun e w' => e = .returned (.bool true) ∧ Below V.heap.size V w'))
    (H4 : Hid (∀ V, Below w.heap.size w V → Calls Try.prog 52 #[.slice A n c, .int .i64 3] V fun e w' => ∃ v, e = .returned v ∧ w'.ownsRow V.heap.size 9 1 v 3 (strv R) ∧ Below V.heap.size V w'))
    (H5 : Hid (∀ V A c, StrsAt V A R → Calls Try.prog 41 #[.slice A 3 c] V fun e w' => e = .returned (.tuple #[.string y, .int .i64 0]) ∧ Below V.heap.size V w')) :
    Calls Try.prog 16 #[.slice A n c, .int .u8 b] w fun e w' => e = .returned (.bool true) ∧ Below w.heap.size w w' := by
  have HAW := Lib.hid awake_any
  have g1 : decide (2000 < P.size) = false := decide_eq_false (by omega)
  have g1' : decide ((2000 : Int) < (P.size : Int)) = false := decide_eq_false (by omega)
  have b0 : Below w.heap.size w (w.alloc (.cells #[.string ⟨#[97, 98, 99, 97, 98]⟩, .string ⟨#[97, 99, 97, 98, 99, 98]⟩, .string ⟨#[97, 99, 98, 99, 97, 99, 98]⟩] 9)) := (Below.refl _ w).alloc (Nat.le_refl _) _
  have sx := strs_new w ⟨#[97, 98, 99, 97, 98]⟩ ⟨#[97, 99, 97, 98, 99, 98]⟩ ⟨#[97, 99, 98, 99, 97, 99, 98]⟩
  go_enter Try.func16, Try.ntmps16
  go_wp2_with (first
    | (go_at_call 46; fail))
  rw [show b % 3 = (a : Int) by omega]
  go_wp2_with (first
    | (go_at_call 46; first
      | ((with_reducible refine (H1.out _ _ _ sx).mono ?_); rintro e w1 ⟨rfl, b1⟩; replace b0 := b0.trans (b1.mono b0.size); replace sx := sx.below b1))
    | (go_at_call 41; first
      | ((with_reducible refine (H2.out _ _ _ sx).mono ?_); rintro e w2 ⟨rfl, b2⟩; replace b0 := b0.trans (b2.mono b0.size); clear sx)
      | ((with_reducible refine (H5.out _ _ _ st).mono ?_); rintro e w5 ⟨rfl, b5⟩; replace b0 := b0.trans (b5.mono b0.size); replace st := st.below b5))
    | (go_at_call 53; first
      | ((with_reducible refine (H3.out _).mono ?_); rintro e w3 ⟨rfl, b3⟩; replace b0 := b0.trans (b3.mono b0.size)))
    | (go_at_call 52; (with_reducible refine (H4.out _ b0).mono ?_); rintro e w4 ⟨v4, rfl, o4, b4⟩; replace b0 := b0.trans (b4.mono b0.size); obtain ⟨A4, c4, rfl, -, -, st⟩ := own_strs o4; rw [hR]; clear o4)
    | (go_at_call 24; (with_reducible refine (HAW.out _).mono ?_); rintro e w9 ⟨rfl, b9⟩; replace b0 := b0.trans (b9.mono b0.size)))
  go_ret
  exact ⟨rfl, b0⟩
theorem marksWhole_none (A : Option Addr) (n c a : Nat) (b : Int) (P T : ByteArray) (R : List ByteArray) (w : World) (hR : R.length = 3) (hb0 : 0 ≤ b) (hb1 : b < 256) (ha : (b % 3).toNat = a) (hP : P.size ≤ 2000) (hT : T.size ≤ 144)
    (H1 : Hid (∀ V A c, StrsAt V A [⟨#[97, 98, 99, 97, 98]⟩, ⟨#[97, 99, 97, 98, 99, 98]⟩, ⟨#[97, 99, 98, 99, 97, 99, 98]⟩] → Calls Try.prog 46 #[.slice A 3 c, .int .u8 (97 + (a : Int)), .int .i64 3] V fun e w' => e = .returned (.tuple #[.string P, .int .i64 0]) ∧ Below V.heap.size V w'))
    (H2 : Hid (∀ V A c, StrsAt V A [⟨#[97, 98, 99, 97, 98]⟩, ⟨#[97, 99, 97, 98, 99, 98]⟩, ⟨#[97, 99, 98, 99, 97, 99, 98]⟩] → Calls Try.prog 41 #[.slice A 3 c] V fun e w' => e = .returned (.tuple #[.string ⟨#[]⟩, .int .i64 6]) ∧ Below V.heap.size V w'))
    (H3 : Hid (∀ V, Calls Try.prog 53 #[.string P] V fun e w' => e = .returned (.bool true) ∧ Below V.heap.size V w'))
    (H4 : Hid (∀ V, Below w.heap.size w V → Calls Try.prog 52 #[.slice A n c, .int .i64 3] V fun e w' => ∃ v, e = .returned v ∧ w'.ownsRow V.heap.size 9 1 v 3 (strv R) ∧ Below V.heap.size V w'))
    (H5 : Hid (∀ V A c, StrsAt V A R → Calls Try.prog 41 #[.slice A 3 c] V fun e w' => e = .returned (.tuple #[.string ⟨#[]⟩, .int .i64 6]) ∧ Below V.heap.size V w'))
    (H6 : Hid (∀ V A c, StrsAt V A R → Calls Try.prog 46 #[.slice A 3 c, .int .u8 (97 + (a : Int)), .int .i64 2] V fun e w' => e = .returned (.tuple #[.string T, .int .i64 0]) ∧ Below V.heap.size V w'))
    (H7 : Hid (∀ V, Calls Try.prog 53 #[.string T] V fun e w' => e = .returned (.bool true) ∧ Below V.heap.size V w')) :
    Calls Try.prog 16 #[.slice A n c, .int .u8 b] w fun e w' => e = .returned (.bool true) ∧ Below w.heap.size w w' := by
  have HAW := Lib.hid awake_any
  have g1 : decide (2000 < P.size) = false := decide_eq_false (by omega)
  have g1' : decide ((2000 : Int) < (P.size : Int)) = false := decide_eq_false (by omega)
  have g2 : decide (T.size ≤ 144) = true := decide_eq_true hT
  have g2' : decide ((T.size : Int) ≤ 144) = true := decide_eq_true (by omega)
  have b0 : Below w.heap.size w (w.alloc (.cells #[.string ⟨#[97, 98, 99, 97, 98]⟩, .string ⟨#[97, 99, 97, 98, 99, 98]⟩, .string ⟨#[97, 99, 98, 99, 97, 99, 98]⟩] 9)) := (Below.refl _ w).alloc (Nat.le_refl _) _
  have sx := strs_new w ⟨#[97, 98, 99, 97, 98]⟩ ⟨#[97, 99, 97, 98, 99, 98]⟩ ⟨#[97, 99, 98, 99, 97, 99, 98]⟩
  go_enter Try.func16, Try.ntmps16
  go_wp2_with (first
    | (go_at_call 46; fail))
  rw [show b % 3 = (a : Int) by omega]
  go_wp2_with (first
    | (go_at_call 46; first
      | ((with_reducible refine (H1.out _ _ _ sx).mono ?_); rintro e w1 ⟨rfl, b1⟩; replace b0 := b0.trans (b1.mono b0.size); replace sx := sx.below b1)
      | ((with_reducible refine (H6.out _ _ _ st).mono ?_); rintro e w6 ⟨rfl, b6⟩; replace b0 := b0.trans (b6.mono b0.size)))
    | (go_at_call 41; first
      | ((with_reducible refine (H2.out _ _ _ sx).mono ?_); rintro e w2 ⟨rfl, b2⟩; replace b0 := b0.trans (b2.mono b0.size); clear sx)
      | ((with_reducible refine (H5.out _ _ _ st).mono ?_); rintro e w5 ⟨rfl, b5⟩; replace b0 := b0.trans (b5.mono b0.size); replace st := st.below b5))
    | (go_at_call 53; first
      | ((with_reducible refine (H3.out _).mono ?_); rintro e w3 ⟨rfl, b3⟩; replace b0 := b0.trans (b3.mono b0.size))
      | ((with_reducible refine (H7.out _).mono ?_); rintro e w3 ⟨rfl, b3⟩; replace b0 := b0.trans (b3.mono b0.size)))
    | (go_at_call 52; (with_reducible refine (H4.out _ b0).mono ?_); rintro e w4 ⟨v4, rfl, o4, b4⟩; replace b0 := b0.trans (b4.mono b0.size); obtain ⟨A4, c4, rfl, -, -, st⟩ := own_strs o4; rw [hR]; clear o4)
    | (go_at_call 24; (with_reducible refine (HAW.out _).mono ?_); rintro e w9 ⟨rfl, b9⟩; replace b0 := b0.trans (b9.mono b0.size)))
  go_ret
  exact ⟨rfl, b0⟩
theorem marksWhole_any (A : Option Addr) (c : Nat) (ss : List ByteArray) (b : Int) (w : World) (hx : ss.length ≤ c) (hc : c ≤ maxLen) (hz : ∀ i, (gets ss i).size ≤ maxLen) (ha : StrsAt w A ss) (hb : (Lit.int .u8 b).wf = true) :
    Calls Try.prog 16 #[.slice A ss.length c, .int .u8 b] w fun e w' => e = .returned (.bool true) ∧ Below w.heap.size w w' := by
  unfold maxLen at hc hz
  have hb2 : 0 ≤ b ∧ b < 2 ^ 8 := by
    have h1 : IntKind.u8.min ≤ b ∧ b ≤ IntKind.u8.max := by simpa [Lit.wf] using hb
    have e1 : IntKind.u8.min = 0 := by decide
    have e2 : IntKind.u8.max = 255 := by decide
    rw [e1, e2] at h1
    omega
  obtain ⟨hb0, hb1⟩ := hb2
  obtain ⟨a, ha2⟩ : ∃ a, (b % 3).toNat = a := ⟨_, rfl⟩
  have ha3 : a < 3 := by omega
  have hx1 : letW 3 [a] := fun d hd => by simp at hd; omega
  obtain ⟨P, p1, p2, p3⟩ := pwF_small wh0_map 3 [a] hx1 (by simp)
  have p4 := pw_free wh0_map wh0_none 3 [a] P hx1 (free_one a) p1
  have H1 := Lib.hid (fun V A c h => by
    have := Power_yes A c wh0 a 3 V wh0_map (by rw [wh0_strs]; exact h) ha3 (by decide)
    rw [p1] at this
    exact this)
  have H2 := Lib.hid (fun V A c h => by
    have := Keeps_yes A c wh0 V wh0_map.toIsMp (by rw [wh0_strs]; exact h)
    rw [wh0_none] at this
    exact this)
  have H3 := Lib.hid (fun V => by
    have := refFree_any P V (fun d hd => by have := p2 d hd; omega) (by simp at p3; omega)
    rw [p4] at this
    exact this)
  have hm := gMs_abc ss
  have H4 := Lib.hid (fun V (hV : Below w.heap.size w V) => maps_any A c ss V (by omega) hz (ha.below hV))
  generalize gMs ss = ms at *
  have hR : (ms.map wS).length = 3 := by rw [List.length_map]; exact hm.len
  have H5 := fun V A c ha => Keeps_yes A c ms V hm.toIsMp ha
  cases hk : kpX ms with
  | some y =>
    rw [hk] at H5
    exact marksWhole_some A _ c a b (wS y) (wS P) _ w hR hb0 (by omega) ha2 (by rw [wS_len]; simp at p3; omega) H1 H2 H3 H4 (Lib.hid H5)
  | none =>
    rw [hk] at H5
    obtain ⟨T, t1, t2, t3⟩ := pwF_small hm 2 [a] hx1 (by simp)
    have t4 := pw_free hm hk 2 [a] T hx1 (free_one a) t1
    have H6 := Lib.hid (fun V A c h => by
      have := Power_yes A c ms a 2 V hm h ha3 (by decide)
      rw [t1] at this
      exact this)
    have H7 := Lib.hid (fun V => by
      have := refFree_any T V (fun d hd => by have := t2 d hd; omega) (by simp at t3; omega)
      rw [t4] at this
      exact this)
    exact marksWhole_none A _ c a b (wS P) (wS T) _ w hR hb0 (by omega) ha2 (by rw [wS_len]; simp at p3; omega) (by rw [wS_len]; simp at t3; omega) H1 H2 H3 H4 (Lib.hid H5) H6 H7
end Go.Proofs.Ytoklnpiehbnalaa
