/- Power, where it has no word. -/
import Derived.Test.YtoklnpiehbnalaaCB
namespace Go.Proofs.Ytoklnpiehbnalaa
open Go.RowKit Go.PlainAid Go.Shelf
attribute [local go_sem] Oper.semAt_some
set_option maxHeartbeats 2000000
set_option maxRecDepth 100000
theorem mapped_iff {m : List Nat} (h : okW m) : (wS m).data.toList.contains 100 = m.contains 3 := by
  by_cases h3 : 3 ∈ m
  · rw [mapped_d h h3, List.contains_iff_mem.2 h3]
  · have : m.contains 3 = false := by
      rw [Bool.eq_false_iff]; intro hc; exact h3 (List.contains_iff_mem.1 hc)
    rw [this]
    exact mapped_abc (fun b hb => by
      have := h b hb
      rcases Nat.lt_or_ge b 3 with h1 | h1
      · exact h1
      · have e : b = 3 := by omega
        subst e; exact absurd hb h3)
def hasD (ms : List (List Nat)) : Bool := ms.any fun m => m.contains 3
theorem noD_abc {ms : List (List Nat)} (h : IsMp ms) (hd : hasD ms = false) : IsM3 ms := by
  refine ⟨h, fun m hm b hb => ?_⟩
  unfold hasD at hd
  have h1 : m.contains 3 = false := by
    rw [Bool.eq_false_iff]; intro hc
    have : (ms.any fun m => m.contains 3) = true := List.any_eq_true.2 ⟨m, hm, hc⟩
    rw [this] at hd; cases hd
  have h2 := h.ok m hm b hb
  rcases Nat.lt_or_ge b 3 with h3 | h3
  · exact h3
  · have e : b = 3 := by omega
    subst e
    have := List.contains_iff_mem.2 hb
    rw [h1] at this; cases this
theorem abc_noD {ms : List (List Nat)} (h : IsM3 ms) : hasD ms = false := by
  unfold hasD
  rw [Bool.eq_false_iff]; intro hc
  obtain ⟨m, hm, h2⟩ := List.any_eq_true.1 hc
  have := h.abc m hm 3 (List.contains_iff_mem.1 h2)
  omega
theorem Join_d {W : World} {g : Nat} {ms : List (List Nat)} (hm : IsMp ms) (hr : Row W g 87 (ms.map fun m => Value.string (wS m))) :
    Calls Try.prog 71 #[.slice (some ⟨g, 0, none⟩) 3 3, .string ⟨#[]⟩] W fun e w' => ∃ s, e = .returned (.string s) ∧ s.data.toList.contains 100 = hasD ms ∧ Below W.heap.size W w' := by
  have hl : (ms.map wS).length = 3 := by rw [List.length_map]; exact hm.len
  have h12 := hm.most
  have key : Lib.join ((ms.map wS).map (·.data.toList)) [] = ((ms.map wS).map (·.data.toList)).flatten ∧ (((ms.map wS).map (·.data.toList)).flatten).length ≤ 36 ∧ (((ms.map wS).map (·.data.toList)).flatten).contains (100 : UInt8) = hasD ms := by
    have h3 := hm.len
    have habc := hm.ok
    match ms, h3 with
    | [a, b, c], _ =>
      have e1 := wS_len a
      have e2 := wS_len b
      have e3 := wS_len c
      have l1 := h12 a (by simp)
      have l2 := h12 b (by simp)
      have l3 := h12 c (by simp)
      have d1 := mapped_iff (habc a (by simp))
      have d2 := mapped_iff (habc b (by simp))
      have d3 := mapped_iff (habc c (by simp))
      refine ⟨by simp [Lib.join], ?_, ?_⟩
      · simp only [List.map_cons, List.map_nil, List.flatten_cons, List.flatten_nil, List.length_append, ds_len, List.length_nil]
        omega
      · unfold hasD
        rw [List.any_cons, List.any_cons, List.any_cons, List.any_nil, ← d1, ← d2, ← d3]
        simp only [List.map_cons, List.map_nil, List.flatten_cons, List.flatten_nil, List.append_nil, List.contains_eq_any_beq, List.any_append, Bool.or_false]
  have h1 := Try.strings_Join g 0 3 (ms.map wS) ⟨#[]⟩ W (fun j x hx => by
    rw [Nat.zero_add, hr.cell]
    rw [List.getElem?_map] at hx ⊢
    cases hh : ms[j]? with
    | none => rw [hh] at hx; cases hx
    | some m => rw [hh] at hx; cases hx; rfl) hr.lt (by omega) (by omega) (by
      show (Lib.join _ []).length ≤ _
      rw [key.1]; omega)
  rw [hl] at h1
  refine h1.mono ?_
  rintro e w' ⟨rfl, hb⟩
  refine ⟨_, rfl, ?_, hb⟩
  show (Lib.join ((ms.map wS).map (·.data.toList)) []).contains 100 = _
  rw [key.1]; exact key.2.2
theorem Power_noMap (A : Option Addr) (c : Nat) (ss : List ByteArray) (b n : Int) (w : World) (h : okMp ss = false) (hs : ∀ i, (gets ss i).size ≤ 100000) (hl : ss.length ≤ 100000) (ha : StrsAt w A ss) :
    Calls Try.prog 46 #[.slice A ss.length c, .int .u8 b, .int .i64 n] w fun e w' => e = .returned (.tuple #[.string ⟨#[]⟩, .int .i64 2]) ∧ Below w.heap.size w w' := by
  have HRM : Hid (Calls Try.prog 67 #[.slice A ss.length c] w fun e w' => e = .returned (.tuple #[.agg #[.string ⟨#[]⟩, .string ⟨#[]⟩, .string ⟨#[]⟩], .bool false]) ∧ Below w.heap.size w w') := Lib.hid (by
    have := readMap_any A c ss w hs hl ha
    unfold rmV at this
    rw [h] at this
    exact this)
  have b0 := Below.refl w.heap.size w
  clear h hs hl ha
  generalize ss.length = m at *
  go_enter Try.func46, Try.ntmps46
  go_wp2_with (go_at_call 67; (with_reducible refine HRM.out.mono ?_); rintro e w2 ⟨rfl, b2⟩; replace b0 := (b0.trans (b2.mono b0.size)).alloc (by have := b2.size; omega) (.cells #[.string ⟨#[]⟩, .string ⟨#[]⟩, .string ⟨#[]⟩] 87))
  exact bodyPost_ret (v := .tuple #[.string ⟨#[]⟩, .int .i64 2]) (by simp [results, Try.results46, go_sem]) rfl ⟨rfl, b0⟩
theorem Power_noD (A : Option Addr) (c : Nat) (ms : List (List Nat)) (b n : Int) (w : World) (hm : IsMp ms) (hd : hasD ms = true) (ha : StrsAt w A (ms.map wS)) :
    Calls Try.prog 46 #[.slice A 3 c, .int .u8 b, .int .i64 n] w fun e w' => e = .returned (.tuple #[.string ⟨#[]⟩, .int .i64 2]) ∧ Below w.heap.size w w' := by
  obtain ⟨s0, s1, s2, h1, h2⟩ := mp_cells hm
  have hl3 : (ms.map wS).length = 3 := by rw [List.length_map]; exact hm.len
  have HRM : Hid (Calls Try.prog 67 #[.slice A 3 c] w fun e w' => e = .returned (.tuple #[.agg #[.string s0, .string s1, .string s2], .bool true]) ∧ Below w.heap.size w w') := Lib.hid (by
    have := readMap_any A c (ms.map wS) w (mp_size hm) (by omega) ha
    unfold rmV at this
    rw [okMp_iff.2 ⟨ms, hm, rfl⟩, if_pos rfl, h2, hl3] at this
    exact this)
  have HJ : Hid (∀ V g, Row V g 87 [.string s0, .string s1, .string s2] → Calls Try.prog 71 #[.slice (some ⟨g, 0, none⟩) 3 3, .string ⟨#[]⟩] V fun e w' => ∃ s, e = .returned (.string s) ∧ s.data.toList.contains 100 = true ∧ Below V.heap.size V w') := Lib.hid (fun V g hr => by
    have e : (ms.map fun m => Value.string (wS m)) = (ms.map wS).map Value.string := by rw [List.map_map]; rfl
    have := Join_d (W := V) (g := g) hm (by rw [e, h2]; exact hr)
    rw [hd] at this; exact this)
  have HM : Hid (∀ s V, s.data.toList.contains 100 = true → Calls Try.prog 68 #[.string s] V fun e w' => e = .returned (.bool (!true)) ∧ V = w') := Lib.hid (fun s V h => by
    have := isMapped_any s V
    rw [h] at this; exact this)
  have b0 := Below.refl w.heap.size w
  clear h1 h2 hl3 ha hm hd
  go_enter Try.func46, Try.ntmps46
  go_wp2_with (first
    | (go_at_call 67; (with_reducible refine HRM.out.mono ?_); rintro e w2 ⟨rfl, b2⟩; replace b0 := (b0.trans (b2.mono b0.size)).alloc (by have := b2.size; omega) (.cells #[.string s0, .string s1, .string s2] 87); have r8 : Row (w2.alloc (.cells #[.string s0, .string s1, .string s2] 87)) w2.heap.size 87 [.string s0, .string s1, .string s2] := row_new rfl)
    | (go_at_call 71; (with_reducible refine (HJ.out _ _ r8).mono ?_); rintro e w3 ⟨s, rfl, hs0, b3⟩; have hs := Lib.hid hs0; clear hs0; replace b0 := b0.trans (b3.mono b0.size); replace r8 := r8.below b3)
    | (go_at_call 68; (with_reducible refine (HM.out _ _ hs.out).mono ?_); rintro e w4 ⟨rfl, rfl⟩))
  exact bodyPost_ret (v := .tuple #[.string ⟨#[]⟩, .int .i64 2]) (by simp [results, Try.results46, go_sem]) rfl ⟨rfl, b0⟩
theorem Power_low (A : Option Addr) (c : Nat) (ms : List (List Nat)) (b n : Int) (w : World) (hm : IsMp ms) (hd : hasD ms = false) (k0 : b < 97) (ha : StrsAt w A (ms.map wS)) :
    Calls Try.prog 46 #[.slice A 3 c, .int .u8 b, .int .i64 n] w fun e w' => e = .returned (.tuple #[.string ⟨#[]⟩, .int .i64 2]) ∧ Below w.heap.size w w' := by
  obtain ⟨s0, s1, s2, h1, h2⟩ := mp_cells hm
  have hl3 : (ms.map wS).length = 3 := by rw [List.length_map]; exact hm.len
  have HRM : Hid (Calls Try.prog 67 #[.slice A 3 c] w fun e w' => e = .returned (.tuple #[.agg #[.string s0, .string s1, .string s2], .bool true]) ∧ Below w.heap.size w w') := Lib.hid (by
    have := readMap_any A c (ms.map wS) w (mp_size hm) (by omega) ha
    unfold rmV at this
    rw [okMp_iff.2 ⟨ms, hm, rfl⟩, if_pos rfl, h2, hl3] at this
    exact this)
  have HJ : Hid (∀ V g, Row V g 87 [.string s0, .string s1, .string s2] → Calls Try.prog 71 #[.slice (some ⟨g, 0, none⟩) 3 3, .string ⟨#[]⟩] V fun e w' => ∃ s, e = .returned (.string s) ∧ s.data.toList.contains 100 = false ∧ Below V.heap.size V w') := Lib.hid (fun V g hr => by
    have e : (ms.map fun m => Value.string (wS m)) = (ms.map wS).map Value.string := by rw [List.map_map]; rfl
    have := Join_d (W := V) (g := g) hm (by rw [e, h2]; exact hr)
    rw [hd] at this; exact this)
  have HM : Hid (∀ s V, s.data.toList.contains 100 = false → Calls Try.prog 68 #[.string s] V fun e w' => e = .returned (.bool (!false)) ∧ V = w') := Lib.hid (fun s V h => by
    have := isMapped_any s V
    rw [h] at this; exact this)
  have c0 : decide (b < 97) = true := decide_eq_true k0
  have b0 := Below.refl w.heap.size w
  clear h1 h2 hl3 ha hm hd k0
  go_enter Try.func46, Try.ntmps46
  go_wp2_with (first
    | (go_at_call 67; (with_reducible refine HRM.out.mono ?_); rintro e w2 ⟨rfl, b2⟩; replace b0 := (b0.trans (b2.mono b0.size)).alloc (by have := b2.size; omega) (.cells #[.string s0, .string s1, .string s2] 87); have r8 : Row (w2.alloc (.cells #[.string s0, .string s1, .string s2] 87)) w2.heap.size 87 [.string s0, .string s1, .string s2] := row_new rfl)
    | (go_at_call 71; (with_reducible refine (HJ.out _ _ r8).mono ?_); rintro e w3 ⟨s, rfl, hs0, b3⟩; have hs := Lib.hid hs0; clear hs0; replace b0 := b0.trans (b3.mono b0.size); replace r8 := r8.below b3)
    | (go_at_call 68; (with_reducible refine (HM.out _ _ hs.out).mono ?_); rintro e w4 ⟨rfl, rfl⟩))
  exact bodyPost_ret (v := .tuple #[.string ⟨#[]⟩, .int .i64 2]) (by simp [results, Try.results46, go_sem]) rfl ⟨rfl, b0⟩
theorem Power_high (A : Option Addr) (c : Nat) (ms : List (List Nat)) (b n : Int) (w : World) (hm : IsMp ms) (hd : hasD ms = false) (k0 : ¬ b < 97) (k1 : 99 < b) (ha : StrsAt w A (ms.map wS)) :
    Calls Try.prog 46 #[.slice A 3 c, .int .u8 b, .int .i64 n] w fun e w' => e = .returned (.tuple #[.string ⟨#[]⟩, .int .i64 2]) ∧ Below w.heap.size w w' := by
  obtain ⟨s0, s1, s2, h1, h2⟩ := mp_cells hm
  have hl3 : (ms.map wS).length = 3 := by rw [List.length_map]; exact hm.len
  have HRM : Hid (Calls Try.prog 67 #[.slice A 3 c] w fun e w' => e = .returned (.tuple #[.agg #[.string s0, .string s1, .string s2], .bool true]) ∧ Below w.heap.size w w') := Lib.hid (by
    have := readMap_any A c (ms.map wS) w (mp_size hm) (by omega) ha
    unfold rmV at this
    rw [okMp_iff.2 ⟨ms, hm, rfl⟩, if_pos rfl, h2, hl3] at this
    exact this)
  have HJ : Hid (∀ V g, Row V g 87 [.string s0, .string s1, .string s2] → Calls Try.prog 71 #[.slice (some ⟨g, 0, none⟩) 3 3, .string ⟨#[]⟩] V fun e w' => ∃ s, e = .returned (.string s) ∧ s.data.toList.contains 100 = false ∧ Below V.heap.size V w') := Lib.hid (fun V g hr => by
    have e : (ms.map fun m => Value.string (wS m)) = (ms.map wS).map Value.string := by rw [List.map_map]; rfl
    have := Join_d (W := V) (g := g) hm (by rw [e, h2]; exact hr)
    rw [hd] at this; exact this)
  have HM : Hid (∀ s V, s.data.toList.contains 100 = false → Calls Try.prog 68 #[.string s] V fun e w' => e = .returned (.bool (!false)) ∧ V = w') := Lib.hid (fun s V h => by
    have := isMapped_any s V
    rw [h] at this; exact this)
  have c0 : decide (b < 97) = false := decide_eq_false k0
  have c1 : decide (99 < b) = true := decide_eq_true k1
  have b0 := Below.refl w.heap.size w
  clear h1 h2 hl3 ha hm hd k0 k1
  go_enter Try.func46, Try.ntmps46
  go_wp2_with (first
    | (go_at_call 67; (with_reducible refine HRM.out.mono ?_); rintro e w2 ⟨rfl, b2⟩; replace b0 := (b0.trans (b2.mono b0.size)).alloc (by have := b2.size; omega) (.cells #[.string s0, .string s1, .string s2] 87); have r8 : Row (w2.alloc (.cells #[.string s0, .string s1, .string s2] 87)) w2.heap.size 87 [.string s0, .string s1, .string s2] := row_new rfl)
    | (go_at_call 71; (with_reducible refine (HJ.out _ _ r8).mono ?_); rintro e w3 ⟨s, rfl, hs0, b3⟩; have hs := Lib.hid hs0; clear hs0; replace b0 := b0.trans (b3.mono b0.size); replace r8 := r8.below b3)
    | (go_at_call 68; (with_reducible refine (HM.out _ _ hs.out).mono ?_); rintro e w4 ⟨rfl, rfl⟩))
  exact bodyPost_ret (v := .tuple #[.string ⟨#[]⟩, .int .i64 2]) (by simp [results, Try.results46, go_sem]) rfl ⟨rfl, b0⟩
theorem Power_neg (A : Option Addr) (c : Nat) (ms : List (List Nat)) (b n : Int) (w : World) (hm : IsMp ms) (hd : hasD ms = false) (k0 : ¬ b < 97) (k1 : ¬ 99 < b) (k2 : n < 0) (ha : StrsAt w A (ms.map wS)) :
    Calls Try.prog 46 #[.slice A 3 c, .int .u8 b, .int .i64 n] w fun e w' => e = .returned (.tuple #[.string ⟨#[]⟩, .int .i64 2]) ∧ Below w.heap.size w w' := by
  obtain ⟨s0, s1, s2, h1, h2⟩ := mp_cells hm
  have hl3 : (ms.map wS).length = 3 := by rw [List.length_map]; exact hm.len
  have HRM : Hid (Calls Try.prog 67 #[.slice A 3 c] w fun e w' => e = .returned (.tuple #[.agg #[.string s0, .string s1, .string s2], .bool true]) ∧ Below w.heap.size w w') := Lib.hid (by
    have := readMap_any A c (ms.map wS) w (mp_size hm) (by omega) ha
    unfold rmV at this
    rw [okMp_iff.2 ⟨ms, hm, rfl⟩, if_pos rfl, h2, hl3] at this
    exact this)
  have HJ : Hid (∀ V g, Row V g 87 [.string s0, .string s1, .string s2] → Calls Try.prog 71 #[.slice (some ⟨g, 0, none⟩) 3 3, .string ⟨#[]⟩] V fun e w' => ∃ s, e = .returned (.string s) ∧ s.data.toList.contains 100 = false ∧ Below V.heap.size V w') := Lib.hid (fun V g hr => by
    have e : (ms.map fun m => Value.string (wS m)) = (ms.map wS).map Value.string := by rw [List.map_map]; rfl
    have := Join_d (W := V) (g := g) hm (by rw [e, h2]; exact hr)
    rw [hd] at this; exact this)
  have HM : Hid (∀ s V, s.data.toList.contains 100 = false → Calls Try.prog 68 #[.string s] V fun e w' => e = .returned (.bool (!false)) ∧ V = w') := Lib.hid (fun s V h => by
    have := isMapped_any s V
    rw [h] at this; exact this)
  have c0 : decide (b < 97) = false := decide_eq_false k0
  have c1 : decide (99 < b) = false := decide_eq_false k1
  have c2 : decide (n < 0) = true := decide_eq_true k2
  have b0 := Below.refl w.heap.size w
  clear h1 h2 hl3 ha hm hd k0 k1 k2
  go_enter Try.func46, Try.ntmps46
  go_wp2_with (first
    | (go_at_call 67; (with_reducible refine HRM.out.mono ?_); rintro e w2 ⟨rfl, b2⟩; replace b0 := (b0.trans (b2.mono b0.size)).alloc (by have := b2.size; omega) (.cells #[.string s0, .string s1, .string s2] 87); have r8 : Row (w2.alloc (.cells #[.string s0, .string s1, .string s2] 87)) w2.heap.size 87 [.string s0, .string s1, .string s2] := row_new rfl)
    | (go_at_call 71; (with_reducible refine (HJ.out _ _ r8).mono ?_); rintro e w3 ⟨s, rfl, hs0, b3⟩; have hs := Lib.hid hs0; clear hs0; replace b0 := b0.trans (b3.mono b0.size); replace r8 := r8.below b3)
    | (go_at_call 68; (with_reducible refine (HM.out _ _ hs.out).mono ?_); rintro e w4 ⟨rfl, rfl⟩))
  exact bodyPost_ret (v := .tuple #[.string ⟨#[]⟩, .int .i64 2]) (by simp [results, Try.results46, go_sem]) rfl ⟨rfl, b0⟩
theorem Power_many (A : Option Addr) (c : Nat) (ms : List (List Nat)) (b n : Int) (w : World) (hm : IsMp ms) (hd : hasD ms = false) (k0 : ¬ b < 97) (k1 : ¬ 99 < b) (k2 : ¬ n < 0) (k3 : 40 < n) (ha : StrsAt w A (ms.map wS)) :
    Calls Try.prog 46 #[.slice A 3 c, .int .u8 b, .int .i64 n] w fun e w' => e = .returned (.tuple #[.string ⟨#[]⟩, .int .i64 2]) ∧ Below w.heap.size w w' := by
  obtain ⟨s0, s1, s2, h1, h2⟩ := mp_cells hm
  have hl3 : (ms.map wS).length = 3 := by rw [List.length_map]; exact hm.len
  have HRM : Hid (Calls Try.prog 67 #[.slice A 3 c] w fun e w' => e = .returned (.tuple #[.agg #[.string s0, .string s1, .string s2], .bool true]) ∧ Below w.heap.size w w') := Lib.hid (by
    have := readMap_any A c (ms.map wS) w (mp_size hm) (by omega) ha
    unfold rmV at this
    rw [okMp_iff.2 ⟨ms, hm, rfl⟩, if_pos rfl, h2, hl3] at this
    exact this)
  have HJ : Hid (∀ V g, Row V g 87 [.string s0, .string s1, .string s2] → Calls Try.prog 71 #[.slice (some ⟨g, 0, none⟩) 3 3, .string ⟨#[]⟩] V fun e w' => ∃ s, e = .returned (.string s) ∧ s.data.toList.contains 100 = false ∧ Below V.heap.size V w') := Lib.hid (fun V g hr => by
    have e : (ms.map fun m => Value.string (wS m)) = (ms.map wS).map Value.string := by rw [List.map_map]; rfl
    have := Join_d (W := V) (g := g) hm (by rw [e, h2]; exact hr)
    rw [hd] at this; exact this)
  have HM : Hid (∀ s V, s.data.toList.contains 100 = false → Calls Try.prog 68 #[.string s] V fun e w' => e = .returned (.bool (!false)) ∧ V = w') := Lib.hid (fun s V h => by
    have := isMapped_any s V
    rw [h] at this; exact this)
  have c0 : decide (b < 97) = false := decide_eq_false k0
  have c1 : decide (99 < b) = false := decide_eq_false k1
  have c2 : decide (n < 0) = false := decide_eq_false k2
  have c3 : decide (40 < n) = true := decide_eq_true k3
  have b0 := Below.refl w.heap.size w
  clear h1 h2 hl3 ha hm hd k0 k1 k2 k3
  go_enter Try.func46, Try.ntmps46
  go_wp2_with (first
    | (go_at_call 67; (with_reducible refine HRM.out.mono ?_); rintro e w2 ⟨rfl, b2⟩; replace b0 := (b0.trans (b2.mono b0.size)).alloc (by have := b2.size; omega) (.cells #[.string s0, .string s1, .string s2] 87); have r8 : Row (w2.alloc (.cells #[.string s0, .string s1, .string s2] 87)) w2.heap.size 87 [.string s0, .string s1, .string s2] := row_new rfl)
    | (go_at_call 71; (with_reducible refine (HJ.out _ _ r8).mono ?_); rintro e w3 ⟨s, rfl, hs0, b3⟩; have hs := Lib.hid hs0; clear hs0; replace b0 := b0.trans (b3.mono b0.size); replace r8 := r8.below b3)
    | (go_at_call 68; (with_reducible refine (HM.out _ _ hs.out).mono ?_); rintro e w4 ⟨rfl, rfl⟩))
  exact bodyPost_ret (v := .tuple #[.string ⟨#[]⟩, .int .i64 2]) (by simp [results, Try.results46, go_sem]) rfl ⟨rfl, b0⟩
theorem Power_bad (A : Option Addr) (c : Nat) (ms : List (List Nat)) (b n : Int) (w : World) (hm : IsMp ms) (h : hasD ms = true ∨ b < 97 ∨ 99 < b ∨ n < 0 ∨ 40 < n) (ha : StrsAt w A (ms.map wS)) :
    Calls Try.prog 46 #[.slice A 3 c, .int .u8 b, .int .i64 n] w fun e w' => e = .returned (.tuple #[.string ⟨#[]⟩, .int .i64 2]) ∧ Below w.heap.size w w' := by
  cases hd : hasD ms
  · by_cases k0 : b < 97
    · exact Power_low A c ms b n w hm hd k0 ha
    by_cases k1 : 99 < b
    · exact Power_high A c ms b n w hm hd k0 k1 ha
    by_cases k2 : n < 0
    · exact Power_neg A c ms b n w hm hd k0 k1 k2 ha
    by_cases k3 : 40 < n
    · exact Power_many A c ms b n w hm hd k0 k1 k2 k3 ha
    exfalso
    rcases h with h | h | h | h | h
    · rw [hd] at h; cases h
    · exact k0 h
    · exact k1 h
    · exact k2 h
    · exact k3 h
  · exact Power_noD A c ms b n w hm hd ha
end Go.Proofs.Ytoklnpiehbnalaa
