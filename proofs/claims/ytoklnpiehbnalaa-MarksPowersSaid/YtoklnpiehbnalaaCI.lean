/- MarksPowers walked. -/
import Derived.Test.YtoklnpiehbnalaaCH
namespace Go.Proofs.Ytoklnpiehbnalaa
open Go.RowKit Go.PlainAid
set_option maxHeartbeats 2000000
set_option maxRecDepth 100000
theorem nil_emptyP : (⟨#[]⟩ : ByteArray).toList.isEmpty = true := by rw [ba_list]; rfl
theorem marksPowers_nomap (A : Option Addr) (n c : Nat) (b z : Int) (I : List ByteArray) (N : Nat) (w : World) (_hN : I.length = N)
    (H1 : Hid (∀ V, Below w.heap.size w V → Calls Try.prog 39 #[.slice A n c] V fun e w' => ∃ v, e = .returned v ∧ w'.ownsRow V.heap.size 9 1 v N (strv I) ∧ Below V.heap.size V w'))
    (H2 : Hid (∀ V A c, StrsAt V A I → Calls Try.prog 46 #[.slice A N c, .int .u8 b, .int .i64 z] V fun e w' => e = .returned (.tuple #[.string ⟨#[]⟩, .int .i64 2]) ∧ Below V.heap.size V w'))
    (H3 : Hid (∀ V A c, StrsAt V A I → Calls Try.prog 42 #[.slice A N c] V fun e w' => e = .returned (.bool false) ∧ V = w')) :
    Calls Try.prog 8 #[.slice A n c, .int .u8 b, .int .i64 z] w fun e w' => e = .returned (.bool true) ∧ Below w.heap.size w w' := by
  have HAW := Lib.hid awake_any
  have hne := nil_emptyP
  have b0 := Below.refl w.heap.size w
  skip
  go_enter Try.func8, Try.ntmps8
  go_wp2_with (first
    | (go_at_call 39; (with_reducible refine (H1.out _ b0).mono ?_); rintro e w2 ⟨v1, rfl, o1, b1⟩; replace b0 := b0.trans (b1.mono b0.size); obtain ⟨A1, c1, rfl, hN1, -, st⟩ := own_strs o1; rw [← hN1]; clear hN1 o1)
    | (go_at_call 46; (with_reducible refine (H2.out _ _ _ st).mono ?_); rintro e w3 ⟨rfl, b3⟩; replace b0 := b0.trans (b3.mono b0.size); replace st := st.below b3))
  have HM : Hid (∀ u : After w3, Calls Try.prog 42 #[.slice A1 N c1] u.v fun e w' => e = .returned (.bool false) ∧ u.v = w') := Lib.hid (fun u => H3.out _ _ _ (st.below u.h))
  clear H1 H2 H3
  refine wp_region_class_all (C := fun w' => ∃ u : After _, w' = u.v) (by kernel_rfl) (by kernel_rfl) (isAfter_start _) ?_
  try simp only [Act.put]
  repeat (go_big_quiet_step ((first | (with_reducible refine (HM.out _).mono ?_; rintro e w8 ⟨rfl, rfl⟩; exact ⟨rfl, _, rfl⟩))))
  refine wpQuiet_nil ?_
  rintro _ ⟨ua, rfl⟩
  have b07 := b0.trans (ua.h.mono b0.size)
  have st7 := st.below ua.h
  clear b0 st
  generalize ua.v = W7 at *
  go_wp2_with (first
    | (go_at_call 24; (with_reducible refine (HAW.out _).mono ?_); rintro e w9 ⟨rfl, b9⟩; replace b07 := b07.trans (b9.mono b07.size)))
  go_ret
  exact ⟨rfl, b07⟩
theorem marksPowers_low (A : Option Addr) (n c : Nat) (b z : Int) (I : List ByteArray) (i0 i1 i2 : ByteArray) (w : World) (hI : I = [i0, i1, i2]) (_hz0 : i0.size ≤ 12) (_hz1 : i1.size ≤ 12) (_hz2 : i2.size ≤ 12) (k0 : b < 97) 
    (H1 : Hid (∀ V, Below w.heap.size w V → Calls Try.prog 39 #[.slice A n c] V fun e w' => ∃ v, e = .returned v ∧ w'.ownsRow V.heap.size 9 1 v 3 (strv I) ∧ Below V.heap.size V w'))
    (H2 : Hid (∀ V A c, StrsAt V A I → Calls Try.prog 46 #[.slice A 3 c, .int .u8 b, .int .i64 z] V fun e w' => e = .returned (.tuple #[.string ⟨#[]⟩, .int .i64 2]) ∧ Below V.heap.size V w'))
    (H3 : Hid (∀ V A c, StrsAt V A I → Calls Try.prog 42 #[.slice A 3 c] V fun e w' => e = .returned (.bool true) ∧ V = w')) :
    Calls Try.prog 8 #[.slice A n c, .int .u8 b, .int .i64 z] w fun e w' => e = .returned (.bool true) ∧ Below w.heap.size w w' := by
  have HAW := Lib.hid awake_any
  have hne := nil_emptyP
  have b0 := Below.refl w.heap.size w
  have c0 : decide (b < 97) = true := decide_eq_true k0
  have HI := Lib.hid hI
  clear hI k0
  go_enter Try.func8, Try.ntmps8
  go_wp2_with (first
    | (go_at_call 39; (with_reducible refine (H1.out _ b0).mono ?_); rintro e w2 ⟨v1, rfl, o1, b1⟩; replace b0 := b0.trans (b1.mono b0.size); obtain ⟨A1, c1, rfl, hN1, -, st⟩ := own_strs o1; rw [← hN1]; clear hN1 o1)
    | (go_at_call 46; (with_reducible refine (H2.out _ _ _ st).mono ?_); rintro e w3 ⟨rfl, b3⟩; replace b0 := b0.trans (b3.mono b0.size); replace st := st.below b3))
  have HM : Hid (∀ u : After w3, Calls Try.prog 42 #[.slice A1 3 c1] u.v fun e w' => e = .returned (.bool true) ∧ u.v = w') := Lib.hid (fun u => H3.out _ _ _ (st.below u.h))
  clear H1 H2 H3
  refine wp_region_class_all (C := fun w' => ∃ u : After _, w' = u.v) (by kernel_rfl) (by kernel_rfl) (isAfter_start _) ?_
  try simp only [Act.put]
  repeat (go_big_quiet_step ((first | (with_reducible refine (HM.out _).mono ?_; rintro e w8 ⟨rfl, rfl⟩; exact ⟨rfl, _, rfl⟩))))
  refine wpQuiet_nil ?_
  rintro _ ⟨ua, rfl⟩
  have b07 := b0.trans (ua.h.mono b0.size)
  have st7 := st.below ua.h
  clear b0 st
  generalize ua.v = W7 at *
  go_wp2_with (first
    | (go_at_call 24; (with_reducible refine (HAW.out _).mono ?_); rintro e w9 ⟨rfl, b9⟩; replace b07 := b07.trans (b9.mono b07.size)))
  go_ret
  exact ⟨rfl, b07⟩
theorem marksPowers_high (A : Option Addr) (n c : Nat) (b z : Int) (I : List ByteArray) (i0 i1 i2 : ByteArray) (w : World) (hI : I = [i0, i1, i2]) (_hz0 : i0.size ≤ 12) (_hz1 : i1.size ≤ 12) (_hz2 : i2.size ≤ 12) (k0 : ¬ b < 97) (k1 : 99 < b) 
    (H1 : Hid (∀ V, Below w.heap.size w V → Calls Try.prog 39 #[.slice A n c] V fun e w' => ∃ v, e = .returned v ∧ w'.ownsRow V.heap.size 9 1 v 3 (strv I) ∧ Below V.heap.size V w'))
    (H2 : Hid (∀ V A c, StrsAt V A I → Calls Try.prog 46 #[.slice A 3 c, .int .u8 b, .int .i64 z] V fun e w' => e = .returned (.tuple #[.string ⟨#[]⟩, .int .i64 2]) ∧ Below V.heap.size V w'))
    (H3 : Hid (∀ V A c, StrsAt V A I → Calls Try.prog 42 #[.slice A 3 c] V fun e w' => e = .returned (.bool true) ∧ V = w')) :
    Calls Try.prog 8 #[.slice A n c, .int .u8 b, .int .i64 z] w fun e w' => e = .returned (.bool true) ∧ Below w.heap.size w w' := by
  have HAW := Lib.hid awake_any
  have hne := nil_emptyP
  have b0 := Below.refl w.heap.size w
  have c0 : decide (b < 97) = false := decide_eq_false k0
  have c1 : decide (99 < b) = true := decide_eq_true k1
  have HI := Lib.hid hI
  clear hI k0 k1
  go_enter Try.func8, Try.ntmps8
  go_wp2_with (first
    | (go_at_call 39; (with_reducible refine (H1.out _ b0).mono ?_); rintro e w2 ⟨v1, rfl, o1, b1⟩; replace b0 := b0.trans (b1.mono b0.size); obtain ⟨A1, c1, rfl, hN1, -, st⟩ := own_strs o1; rw [← hN1]; clear hN1 o1)
    | (go_at_call 46; (with_reducible refine (H2.out _ _ _ st).mono ?_); rintro e w3 ⟨rfl, b3⟩; replace b0 := b0.trans (b3.mono b0.size); replace st := st.below b3))
  have HM : Hid (∀ u : After w3, Calls Try.prog 42 #[.slice A1 3 c1] u.v fun e w' => e = .returned (.bool true) ∧ u.v = w') := Lib.hid (fun u => H3.out _ _ _ (st.below u.h))
  clear H1 H2 H3
  refine wp_region_class_all (C := fun w' => ∃ u : After _, w' = u.v) (by kernel_rfl) (by kernel_rfl) (isAfter_start _) ?_
  try simp only [Act.put]
  repeat (go_big_quiet_step ((first | (with_reducible refine (HM.out _).mono ?_; rintro e w8 ⟨rfl, rfl⟩; exact ⟨rfl, _, rfl⟩))))
  refine wpQuiet_nil ?_
  rintro _ ⟨ua, rfl⟩
  have b07 := b0.trans (ua.h.mono b0.size)
  have st7 := st.below ua.h
  clear b0 st
  generalize ua.v = W7 at *
  go_wp2_with (first
    | (go_at_call 24; (with_reducible refine (HAW.out _).mono ?_); rintro e w9 ⟨rfl, b9⟩; replace b07 := b07.trans (b9.mono b07.size)))
  go_ret
  exact ⟨rfl, b07⟩
theorem marksPowers_noD (A : Option Addr) (n c : Nat) (b z : Int) (I : List ByteArray) (i0 i1 i2 : ByteArray) (w : World) (hI : I = [i0, i1, i2]) (hz0 : i0.size ≤ 12) (hz1 : i1.size ≤ 12) (hz2 : i2.size ≤ 12) (k0 : ¬ b < 97) (k1 : ¬ 99 < b) 
    (H1 : Hid (∀ V, Below w.heap.size w V → Calls Try.prog 39 #[.slice A n c] V fun e w' => ∃ v, e = .returned v ∧ w'.ownsRow V.heap.size 9 1 v 3 (strv I) ∧ Below V.heap.size V w'))
    (H2 : Hid (∀ V A c, StrsAt V A I → Calls Try.prog 46 #[.slice A 3 c, .int .u8 b, .int .i64 z] V fun e w' => e = .returned (.tuple #[.string ⟨#[]⟩, .int .i64 2]) ∧ Below V.heap.size V w'))
    (H3 : Hid (∀ V A c, StrsAt V A I → Calls Try.prog 42 #[.slice A 3 c] V fun e w' => e = .returned (.bool true) ∧ V = w'))
    (H4 : Hid (∀ V, Calls Try.prog 44 #[.string (i0 ++ i1 ++ i2), .int .i64 3] V fun e w' => e = .returned (.bool false) ∧ V = w')) :
    Calls Try.prog 8 #[.slice A n c, .int .u8 b, .int .i64 z] w fun e w' => e = .returned (.bool true) ∧ Below w.heap.size w w' := by
  have HAW := Lib.hid awake_any
  have hne := nil_emptyP
  have b0 := Below.refl w.heap.size w
  have c0 : decide (b < 97) = false := decide_eq_false k0
  have c1 : decide (99 < b) = false := decide_eq_false k1
  have HI := Lib.hid hI
  clear hI k0 k1
  go_enter Try.func8, Try.ntmps8
  go_wp2_with (first
    | (go_at_call 39; (with_reducible refine (H1.out _ b0).mono ?_); rintro e w2 ⟨v1, rfl, o1, b1⟩; replace b0 := b0.trans (b1.mono b0.size); obtain ⟨A1, c1, rfl, hN1, -, st⟩ := own_strs o1; rw [← hN1]; clear hN1 o1)
    | (go_at_call 46; (with_reducible refine (H2.out _ _ _ st).mono ?_); rintro e w3 ⟨rfl, b3⟩; replace b0 := b0.trans (b3.mono b0.size); replace st := st.below b3))
  have HM : Hid (∀ u : After w3, Calls Try.prog 42 #[.slice A1 3 c1] u.v fun e w' => e = .returned (.bool true) ∧ u.v = w') := Lib.hid (fun u => H3.out _ _ _ (st.below u.h))
  obtain ⟨bI, oI, hAe, -, hcI⟩ := st (by rw [HI.out]; exact Nat.succ_pos _)
  rw [HI.out] at hcI
  have d0 : ∀ u : After w3, u.v.cell? ⟨bI, oI, none⟩ = some (.string i0) := fun u => After.cell (hcI 0 (Nat.succ_pos _)) u
  have d1 : ∀ u : After w3, u.v.cell? ⟨bI, oI + 1, none⟩ = some (.string i1) := fun u => After.cell (hcI 1 (by show 1 < 3; omega)) u
  have d2 : ∀ u : After w3, u.v.cell? ⟨bI, oI + 2, none⟩ = some (.string i2) := fun u => After.cell (hcI 2 (by show 2 < 3; omega)) u
  have hsum : i0.size + i1.size ≤ 24 := by omega
  have hsum2 : i0.size + i1.size + i2.size ≤ 36 := by omega
  clear hcI
  subst hAe
  clear H1 H2 H3
  refine wp_region_class_all (C := fun w' => ∃ u : After _, w' = u.v) (by kernel_rfl) (by kernel_rfl) (isAfter_start _) ?_
  try simp only [Act.put]
  repeat (go_big_quiet_step ((first | (with_reducible refine (HM.out _).mono ?_; rintro e w8 ⟨rfl, rfl⟩; exact ⟨rfl, _, rfl⟩) | (with_reducible refine (H4.out _).mono ?_; rintro e w8 ⟨rfl, rfl⟩; exact ⟨rfl, _, rfl⟩))))
  refine wpQuiet_nil ?_
  rintro _ ⟨ua, rfl⟩
  have b07 := b0.trans (ua.h.mono b0.size)
  have st7 := st.below ua.h
  clear b0 st
  generalize ua.v = W7 at *
  go_wp2_with (first
    | (go_at_call 24; (with_reducible refine (HAW.out _).mono ?_); rintro e w9 ⟨rfl, b9⟩; replace b07 := b07.trans (b9.mono b07.size)))
  go_ret
  exact ⟨rfl, b07⟩
theorem marksPowers_neg (A : Option Addr) (n c : Nat) (b z : Int) (I : List ByteArray) (i0 i1 i2 : ByteArray) (w : World) (hI : I = [i0, i1, i2]) (hz0 : i0.size ≤ 12) (hz1 : i1.size ≤ 12) (hz2 : i2.size ≤ 12) (k0 : ¬ b < 97) (k1 : ¬ 99 < b) (k3 : z < 0) 
    (H1 : Hid (∀ V, Below w.heap.size w V → Calls Try.prog 39 #[.slice A n c] V fun e w' => ∃ v, e = .returned v ∧ w'.ownsRow V.heap.size 9 1 v 3 (strv I) ∧ Below V.heap.size V w'))
    (H2 : Hid (∀ V A c, StrsAt V A I → Calls Try.prog 46 #[.slice A 3 c, .int .u8 b, .int .i64 z] V fun e w' => e = .returned (.tuple #[.string ⟨#[]⟩, .int .i64 2]) ∧ Below V.heap.size V w'))
    (H3 : Hid (∀ V A c, StrsAt V A I → Calls Try.prog 42 #[.slice A 3 c] V fun e w' => e = .returned (.bool true) ∧ V = w'))
    (H4 : Hid (∀ V, Calls Try.prog 44 #[.string (i0 ++ i1 ++ i2), .int .i64 3] V fun e w' => e = .returned (.bool true) ∧ V = w')) :
    Calls Try.prog 8 #[.slice A n c, .int .u8 b, .int .i64 z] w fun e w' => e = .returned (.bool true) ∧ Below w.heap.size w w' := by
  have HAW := Lib.hid awake_any
  have hne := nil_emptyP
  have b0 := Below.refl w.heap.size w
  have c0 : decide (b < 97) = false := decide_eq_false k0
  have c1 : decide (99 < b) = false := decide_eq_false k1
  have c3 : decide (z < 0) = true := decide_eq_true k3
  have HI := Lib.hid hI
  clear hI k0 k1 k3
  go_enter Try.func8, Try.ntmps8
  go_wp2_with (first
    | (go_at_call 39; (with_reducible refine (H1.out _ b0).mono ?_); rintro e w2 ⟨v1, rfl, o1, b1⟩; replace b0 := b0.trans (b1.mono b0.size); obtain ⟨A1, c1, rfl, hN1, -, st⟩ := own_strs o1; rw [← hN1]; clear hN1 o1)
    | (go_at_call 46; (with_reducible refine (H2.out _ _ _ st).mono ?_); rintro e w3 ⟨rfl, b3⟩; replace b0 := b0.trans (b3.mono b0.size); replace st := st.below b3))
  have HM : Hid (∀ u : After w3, Calls Try.prog 42 #[.slice A1 3 c1] u.v fun e w' => e = .returned (.bool true) ∧ u.v = w') := Lib.hid (fun u => H3.out _ _ _ (st.below u.h))
  obtain ⟨bI, oI, hAe, -, hcI⟩ := st (by rw [HI.out]; exact Nat.succ_pos _)
  rw [HI.out] at hcI
  have d0 : ∀ u : After w3, u.v.cell? ⟨bI, oI, none⟩ = some (.string i0) := fun u => After.cell (hcI 0 (Nat.succ_pos _)) u
  have d1 : ∀ u : After w3, u.v.cell? ⟨bI, oI + 1, none⟩ = some (.string i1) := fun u => After.cell (hcI 1 (by show 1 < 3; omega)) u
  have d2 : ∀ u : After w3, u.v.cell? ⟨bI, oI + 2, none⟩ = some (.string i2) := fun u => After.cell (hcI 2 (by show 2 < 3; omega)) u
  have hsum : i0.size + i1.size ≤ 24 := by omega
  have hsum2 : i0.size + i1.size + i2.size ≤ 36 := by omega
  clear hcI
  subst hAe
  clear H1 H2 H3
  refine wp_region_class_all (C := fun w' => ∃ u : After _, w' = u.v) (by kernel_rfl) (by kernel_rfl) (isAfter_start _) ?_
  try simp only [Act.put]
  repeat (go_big_quiet_step ((first | (with_reducible refine (HM.out _).mono ?_; rintro e w8 ⟨rfl, rfl⟩; exact ⟨rfl, _, rfl⟩) | (with_reducible refine (H4.out _).mono ?_; rintro e w8 ⟨rfl, rfl⟩; exact ⟨rfl, _, rfl⟩))))
  refine wpQuiet_nil ?_
  rintro _ ⟨ua, rfl⟩
  have b07 := b0.trans (ua.h.mono b0.size)
  have st7 := st.below ua.h
  clear b0 st
  generalize ua.v = W7 at *
  go_wp2_with (first
    | (go_at_call 24; (with_reducible refine (HAW.out _).mono ?_); rintro e w9 ⟨rfl, b9⟩; replace b07 := b07.trans (b9.mono b07.size)))
  go_ret
  exact ⟨rfl, b07⟩
theorem marksPowers_many (A : Option Addr) (n c : Nat) (b z : Int) (I : List ByteArray) (i0 i1 i2 : ByteArray) (w : World) (hI : I = [i0, i1, i2]) (hz0 : i0.size ≤ 12) (hz1 : i1.size ≤ 12) (hz2 : i2.size ≤ 12) (k0 : ¬ b < 97) (k1 : ¬ 99 < b) (k3 : ¬ z < 0) (k4 : 40 < z) 
    (H1 : Hid (∀ V, Below w.heap.size w V → Calls Try.prog 39 #[.slice A n c] V fun e w' => ∃ v, e = .returned v ∧ w'.ownsRow V.heap.size 9 1 v 3 (strv I) ∧ Below V.heap.size V w'))
    (H2 : Hid (∀ V A c, StrsAt V A I → Calls Try.prog 46 #[.slice A 3 c, .int .u8 b, .int .i64 z] V fun e w' => e = .returned (.tuple #[.string ⟨#[]⟩, .int .i64 2]) ∧ Below V.heap.size V w'))
    (H3 : Hid (∀ V A c, StrsAt V A I → Calls Try.prog 42 #[.slice A 3 c] V fun e w' => e = .returned (.bool true) ∧ V = w'))
    (H4 : Hid (∀ V, Calls Try.prog 44 #[.string (i0 ++ i1 ++ i2), .int .i64 3] V fun e w' => e = .returned (.bool true) ∧ V = w')) :
    Calls Try.prog 8 #[.slice A n c, .int .u8 b, .int .i64 z] w fun e w' => e = .returned (.bool true) ∧ Below w.heap.size w w' := by
  have HAW := Lib.hid awake_any
  have hne := nil_emptyP
  have b0 := Below.refl w.heap.size w
  have c0 : decide (b < 97) = false := decide_eq_false k0
  have c1 : decide (99 < b) = false := decide_eq_false k1
  have c3 : decide (z < 0) = false := decide_eq_false k3
  have c4 : decide (40 < z) = true := decide_eq_true k4
  have HI := Lib.hid hI
  clear hI k0 k1 k3 k4
  go_enter Try.func8, Try.ntmps8
  go_wp2_with (first
    | (go_at_call 39; (with_reducible refine (H1.out _ b0).mono ?_); rintro e w2 ⟨v1, rfl, o1, b1⟩; replace b0 := b0.trans (b1.mono b0.size); obtain ⟨A1, c1, rfl, hN1, -, st⟩ := own_strs o1; rw [← hN1]; clear hN1 o1)
    | (go_at_call 46; (with_reducible refine (H2.out _ _ _ st).mono ?_); rintro e w3 ⟨rfl, b3⟩; replace b0 := b0.trans (b3.mono b0.size); replace st := st.below b3))
  have HM : Hid (∀ u : After w3, Calls Try.prog 42 #[.slice A1 3 c1] u.v fun e w' => e = .returned (.bool true) ∧ u.v = w') := Lib.hid (fun u => H3.out _ _ _ (st.below u.h))
  obtain ⟨bI, oI, hAe, -, hcI⟩ := st (by rw [HI.out]; exact Nat.succ_pos _)
  rw [HI.out] at hcI
  have d0 : ∀ u : After w3, u.v.cell? ⟨bI, oI, none⟩ = some (.string i0) := fun u => After.cell (hcI 0 (Nat.succ_pos _)) u
  have d1 : ∀ u : After w3, u.v.cell? ⟨bI, oI + 1, none⟩ = some (.string i1) := fun u => After.cell (hcI 1 (by show 1 < 3; omega)) u
  have d2 : ∀ u : After w3, u.v.cell? ⟨bI, oI + 2, none⟩ = some (.string i2) := fun u => After.cell (hcI 2 (by show 2 < 3; omega)) u
  have hsum : i0.size + i1.size ≤ 24 := by omega
  have hsum2 : i0.size + i1.size + i2.size ≤ 36 := by omega
  clear hcI
  subst hAe
  clear H1 H2 H3
  refine wp_region_class_all (C := fun w' => ∃ u : After _, w' = u.v) (by kernel_rfl) (by kernel_rfl) (isAfter_start _) ?_
  try simp only [Act.put]
  repeat (go_big_quiet_step ((first | (with_reducible refine (HM.out _).mono ?_; rintro e w8 ⟨rfl, rfl⟩; exact ⟨rfl, _, rfl⟩) | (with_reducible refine (H4.out _).mono ?_; rintro e w8 ⟨rfl, rfl⟩; exact ⟨rfl, _, rfl⟩))))
  refine wpQuiet_nil ?_
  rintro _ ⟨ua, rfl⟩
  have b07 := b0.trans (ua.h.mono b0.size)
  have st7 := st.below ua.h
  clear b0 st
  generalize ua.v = W7 at *
  go_wp2_with (first
    | (go_at_call 24; (with_reducible refine (HAW.out _).mono ?_); rintro e w9 ⟨rfl, b9⟩; replace b07 := b07.trans (b9.mono b07.size)))
  go_ret
  exact ⟨rfl, b07⟩
theorem marksPowers_some (A : Option Addr) (n c : Nat) (b z : Int) (I : List ByteArray) (i0 i1 i2 : ByteArray) (p : ByteArray) (w : World) (hI : I = [i0, i1, i2]) (hz0 : i0.size ≤ 12) (hz1 : i1.size ≤ 12) (hz2 : i2.size ≤ 12) (k0 : ¬ b < 97) (k1 : ¬ 99 < b) (k3 : ¬ z < 0) (k4 : ¬ 40 < z) 
    (H1 : Hid (∀ V, Below w.heap.size w V → Calls Try.prog 39 #[.slice A n c] V fun e w' => ∃ v, e = .returned v ∧ w'.ownsRow V.heap.size 9 1 v 3 (strv I) ∧ Below V.heap.size V w'))
    (H2 : Hid (∀ V A c, StrsAt V A I → Calls Try.prog 46 #[.slice A 3 c, .int .u8 b, .int .i64 z] V fun e w' => e = .returned (.tuple #[.string p, .int .i64 0]) ∧ Below V.heap.size V w'))
    (H3 : Hid (∀ V A c, StrsAt V A I → Calls Try.prog 42 #[.slice A 3 c] V fun e w' => e = .returned (.bool true) ∧ V = w'))
    (H4 : Hid (∀ V, Calls Try.prog 44 #[.string (i0 ++ i1 ++ i2), .int .i64 3] V fun e w' => e = .returned (.bool true) ∧ V = w'))
    (H5 : Hid (∀ V A c, StrsAt V A I → Calls Try.prog 47 #[.slice A 3 c, .int .u8 b, .int .i64 z] V fun e w' => e = .returned (.tuple #[.string p, .bool true]) ∧ Below V.heap.size V w')) :
    Calls Try.prog 8 #[.slice A n c, .int .u8 b, .int .i64 z] w fun e w' => e = .returned (.bool true) ∧ Below w.heap.size w w' := by
  have HAW := Lib.hid awake_any
  have hne := nil_emptyP
  have b0 := Below.refl w.heap.size w
  have c0 : decide (b < 97) = false := decide_eq_false k0
  have c1 : decide (99 < b) = false := decide_eq_false k1
  have c3 : decide (z < 0) = false := decide_eq_false k3
  have c4 : decide (40 < z) = false := decide_eq_false k4
  have HI := Lib.hid hI
  have hpp : (p.toList == p.toList) = true := beq_self_eq_true _
  clear hI k0 k1 k3 k4
  go_enter Try.func8, Try.ntmps8
  go_wp2_with (first
    | (go_at_call 39; (with_reducible refine (H1.out _ b0).mono ?_); rintro e w2 ⟨v1, rfl, o1, b1⟩; replace b0 := b0.trans (b1.mono b0.size); obtain ⟨A1, c1, rfl, hN1, -, st⟩ := own_strs o1; rw [← hN1]; clear hN1 o1)
    | (go_at_call 46; (with_reducible refine (H2.out _ _ _ st).mono ?_); rintro e w3 ⟨rfl, b3⟩; replace b0 := b0.trans (b3.mono b0.size); replace st := st.below b3))
  have HM : Hid (∀ u : After w3, Calls Try.prog 42 #[.slice A1 3 c1] u.v fun e w' => e = .returned (.bool true) ∧ u.v = w') := Lib.hid (fun u => H3.out _ _ _ (st.below u.h))
  obtain ⟨bI, oI, hAe, -, hcI⟩ := st (by rw [HI.out]; exact Nat.succ_pos _)
  rw [HI.out] at hcI
  have d0 : ∀ u : After w3, u.v.cell? ⟨bI, oI, none⟩ = some (.string i0) := fun u => After.cell (hcI 0 (Nat.succ_pos _)) u
  have d1 : ∀ u : After w3, u.v.cell? ⟨bI, oI + 1, none⟩ = some (.string i1) := fun u => After.cell (hcI 1 (by show 1 < 3; omega)) u
  have d2 : ∀ u : After w3, u.v.cell? ⟨bI, oI + 2, none⟩ = some (.string i2) := fun u => After.cell (hcI 2 (by show 2 < 3; omega)) u
  have hsum : i0.size + i1.size ≤ 24 := by omega
  have hsum2 : i0.size + i1.size + i2.size ≤ 36 := by omega
  clear hcI
  subst hAe
  clear H1 H2 H3
  refine wp_region_class_all (C := fun w' => ∃ u : After _, w' = u.v) (by kernel_rfl) (by kernel_rfl) (isAfter_start _) ?_
  try simp only [Act.put]
  repeat (go_big_quiet_step ((first | (with_reducible refine (HM.out _).mono ?_; rintro e w8 ⟨rfl, rfl⟩; exact ⟨rfl, _, rfl⟩) | (with_reducible refine (H4.out _).mono ?_; rintro e w8 ⟨rfl, rfl⟩; exact ⟨rfl, _, rfl⟩))))
  refine wpQuiet_nil ?_
  rintro _ ⟨ua, rfl⟩
  have b07 := b0.trans (ua.h.mono b0.size)
  have st7 := st.below ua.h
  clear b0 st
  generalize ua.v = W7 at *
  go_wp2_with (first
    | (go_at_call 47; (with_reducible refine (H5.out _ _ _ st7).mono ?_); rintro e w8 ⟨rfl, b8⟩; replace b07 := b07.trans (b8.mono b07.size))
    | (go_at_call 24; (with_reducible refine (HAW.out _).mono ?_); rintro e w9 ⟨rfl, b9⟩; replace b07 := b07.trans (b9.mono b07.size)))
  go_ret
  exact ⟨rfl, b07⟩
theorem marksPowers_none (A : Option Addr) (n c : Nat) (b z : Int) (I : List ByteArray) (i0 i1 i2 : ByteArray) (w : World) (hI : I = [i0, i1, i2]) (hz0 : i0.size ≤ 12) (hz1 : i1.size ≤ 12) (hz2 : i2.size ≤ 12) (k0 : ¬ b < 97) (k1 : ¬ 99 < b) (k3 : ¬ z < 0) (k4 : ¬ 40 < z) 
    (H1 : Hid (∀ V, Below w.heap.size w V → Calls Try.prog 39 #[.slice A n c] V fun e w' => ∃ v, e = .returned v ∧ w'.ownsRow V.heap.size 9 1 v 3 (strv I) ∧ Below V.heap.size V w'))
    (H2 : Hid (∀ V A c, StrsAt V A I → Calls Try.prog 46 #[.slice A 3 c, .int .u8 b, .int .i64 z] V fun e w' => e = .returned (.tuple #[.string ⟨#[]⟩, .int .i64 2]) ∧ Below V.heap.size V w'))
    (H3 : Hid (∀ V A c, StrsAt V A I → Calls Try.prog 42 #[.slice A 3 c] V fun e w' => e = .returned (.bool true) ∧ V = w'))
    (H4 : Hid (∀ V, Calls Try.prog 44 #[.string (i0 ++ i1 ++ i2), .int .i64 3] V fun e w' => e = .returned (.bool true) ∧ V = w'))
    (H5 : Hid (∀ V A c, StrsAt V A I → Calls Try.prog 47 #[.slice A 3 c, .int .u8 b, .int .i64 z] V fun e w' => e = .returned (.tuple #[.string ⟨#[]⟩, .bool false]) ∧ Below V.heap.size V w')) :
    Calls Try.prog 8 #[.slice A n c, .int .u8 b, .int .i64 z] w fun e w' => e = .returned (.bool true) ∧ Below w.heap.size w w' := by
  have HAW := Lib.hid awake_any
  have hne := nil_emptyP
  have b0 := Below.refl w.heap.size w
  have c0 : decide (b < 97) = false := decide_eq_false k0
  have c1 : decide (99 < b) = false := decide_eq_false k1
  have c3 : decide (z < 0) = false := decide_eq_false k3
  have c4 : decide (40 < z) = false := decide_eq_false k4
  have HI := Lib.hid hI
  clear hI k0 k1 k3 k4
  go_enter Try.func8, Try.ntmps8
  go_wp2_with (first
    | (go_at_call 39; (with_reducible refine (H1.out _ b0).mono ?_); rintro e w2 ⟨v1, rfl, o1, b1⟩; replace b0 := b0.trans (b1.mono b0.size); obtain ⟨A1, c1, rfl, hN1, -, st⟩ := own_strs o1; rw [← hN1]; clear hN1 o1)
    | (go_at_call 46; (with_reducible refine (H2.out _ _ _ st).mono ?_); rintro e w3 ⟨rfl, b3⟩; replace b0 := b0.trans (b3.mono b0.size); replace st := st.below b3))
  have HM : Hid (∀ u : After w3, Calls Try.prog 42 #[.slice A1 3 c1] u.v fun e w' => e = .returned (.bool true) ∧ u.v = w') := Lib.hid (fun u => H3.out _ _ _ (st.below u.h))
  obtain ⟨bI, oI, hAe, -, hcI⟩ := st (by rw [HI.out]; exact Nat.succ_pos _)
  rw [HI.out] at hcI
  have d0 : ∀ u : After w3, u.v.cell? ⟨bI, oI, none⟩ = some (.string i0) := fun u => After.cell (hcI 0 (Nat.succ_pos _)) u
  have d1 : ∀ u : After w3, u.v.cell? ⟨bI, oI + 1, none⟩ = some (.string i1) := fun u => After.cell (hcI 1 (by show 1 < 3; omega)) u
  have d2 : ∀ u : After w3, u.v.cell? ⟨bI, oI + 2, none⟩ = some (.string i2) := fun u => After.cell (hcI 2 (by show 2 < 3; omega)) u
  have hsum : i0.size + i1.size ≤ 24 := by omega
  have hsum2 : i0.size + i1.size + i2.size ≤ 36 := by omega
  clear hcI
  subst hAe
  clear H1 H2 H3
  refine wp_region_class_all (C := fun w' => ∃ u : After _, w' = u.v) (by kernel_rfl) (by kernel_rfl) (isAfter_start _) ?_
  try simp only [Act.put]
  repeat (go_big_quiet_step ((first | (with_reducible refine (HM.out _).mono ?_; rintro e w8 ⟨rfl, rfl⟩; exact ⟨rfl, _, rfl⟩) | (with_reducible refine (H4.out _).mono ?_; rintro e w8 ⟨rfl, rfl⟩; exact ⟨rfl, _, rfl⟩))))
  refine wpQuiet_nil ?_
  rintro _ ⟨ua, rfl⟩
  have b07 := b0.trans (ua.h.mono b0.size)
  have st7 := st.below ua.h
  clear b0 st
  generalize ua.v = W7 at *
  go_wp2_with (first
    | (go_at_call 47; (with_reducible refine (H5.out _ _ _ st7).mono ?_); rintro e w8 ⟨rfl, b8⟩; replace b07 := b07.trans (b8.mono b07.size))
    | (go_at_call 24; (with_reducible refine (HAW.out _).mono ?_); rintro e w9 ⟨rfl, b9⟩; replace b07 := b07.trans (b9.mono b07.size)))
  go_ret
  exact ⟨rfl, b07⟩
theorem marksPowers_any (A : Option Addr) (c : Nat) (ss : List ByteArray) (b z : Int) (w : World) (hx : ss.length ≤ c) (hc : c ≤ maxLen) (hz : ∀ i, (gets ss i).size ≤ maxLen) (ha : StrsAt w A ss) :
    Calls Try.prog 8 #[.slice A ss.length c, .int .u8 b, .int .i64 z] w fun e w' => e = .returned (.bool true) ∧ Below w.heap.size w w' := by
  unfold maxLen at hc hz
  have hl4 := iMs_len ss
  have hsz := iMs_size ss
  have H1 : Hid (∀ V, Below w.heap.size w V → Calls Try.prog 39 #[.slice A ss.length c] V fun e w' => ∃ v, e = .returned v ∧ w'.ownsRow V.heap.size 9 1 v (iMs ss).length (strv (iMs ss)) ∧ Below V.heap.size V w') := Lib.hid (fun V hV => images_any A c ss V (by omega) hz (ha.below hV))
  generalize iMs ss = I at *
  cases hok : okMp I
  · have H3 : Hid (∀ V A c, StrsAt V A I → Calls Try.prog 42 #[.slice A I.length c] V fun e w' => e = .returned (.bool false) ∧ V = w') := Lib.hid (fun V A c h => by
      have := refMap_any A c I V hsz (by omega) h
      rw [hok] at this; exact this)
    exact marksPowers_nomap A ss.length c b z I I.length w rfl H1 (Lib.hid (fun V A c h => Power_noMap A c I b z V hok hsz (by omega) h)) H3
  · obtain ⟨ms, hm, hI⟩ := okMp_iff.1 hok
    obtain ⟨x0, x1, x2, hms⟩ := lit3N hm.len
    have hI3 : I = [wS x0, wS x1, wS x2] := by rw [hI, hms]; rfl
    have hlen : I.length = 3 := by rw [hI3]; rfl
    have o0 := hm.ok x0 (by rw [hms]; simp)
    have o1 := hm.ok x1 (by rw [hms]; simp)
    have o2 := hm.ok x2 (by rw [hms]; simp)
    have m0 := hm.most x0 (by rw [hms]; simp)
    have m1 := hm.most x1 (by rw [hms]; simp)
    have m2 := hm.most x2 (by rw [hms]; simp)
    have z0 : (wS x0).size ≤ 12 := by rw [wS_len]; exact m0
    have z1 : (wS x1).size ≤ 12 := by rw [wS_len]; exact m1
    have z2 : (wS x2).size ≤ 12 := by rw [wS_len]; exact m2
    rw [hlen] at H1
    have H3 : Hid (∀ V A c, StrsAt V A I → Calls Try.prog 42 #[.slice A 3 c] V fun e w' => e = .returned (.bool true) ∧ V = w') := Lib.hid (fun V A c h => by
      have := refMap_any A c I V hsz (by omega) h
      rw [hok, hlen] at this; exact this)
    have hlt : ltK 3 (wS x0 ++ wS x1 ++ wS x2) = !hasD ms := by rw [letters_three o0 o1 o2, hms]
    have H4 : Hid (∀ V, Calls Try.prog 44 #[.string (wS x0 ++ wS x1 ++ wS x2), .int .i64 3] V fun e w' => e = .returned (.bool (!hasD ms)) ∧ V = w') := Lib.hid (fun V => by
      have := refLetters_any (wS x0 ++ wS x1 ++ wS x2) 3 V (by rw [ByteArray.size_append, ByteArray.size_append]; omega) (by decide)
      rw [hlt] at this; exact this)
    have H2 : Hid ((hasD ms = true ∨ b < 97 ∨ 99 < b ∨ z < 0 ∨ 40 < z) → ∀ V A c, StrsAt V A I → Calls Try.prog 46 #[.slice A 3 c, .int .u8 b, .int .i64 z] V fun e w' => e = .returned (.tuple #[.string ⟨#[]⟩, .int .i64 2]) ∧ Below V.heap.size V w') := Lib.hid (fun hbad V A c h => Power_bad A c ms b z V hm hbad (by rw [← hI]; exact h))
    by_cases k0 : b < 97
    · exact marksPowers_low A ss.length c b z I _ _ _ w hI3 z0 z1 z2 k0 H1 (Lib.hid (H2.out (.inr (.inl k0)))) H3
    by_cases k1 : 99 < b
    · exact marksPowers_high A ss.length c b z I _ _ _ w hI3 z0 z1 z2 k0 k1 H1 (Lib.hid (H2.out (.inr (.inr (.inl k1))))) H3
    cases hd : hasD ms
    · rw [hd] at H4
      by_cases k3 : z < 0
      · exact marksPowers_neg A ss.length c b z I _ _ _ w hI3 z0 z1 z2 k0 k1 k3 H1 (Lib.hid (H2.out (.inr (.inr (.inr (.inl k3)))))) H3 H4
      by_cases k4 : 40 < z
      · exact marksPowers_many A ss.length c b z I _ _ _ w hI3 z0 z1 z2 k0 k1 k3 k4 H1 (Lib.hid (H2.out (.inr (.inr (.inr (.inr k4)))))) H3 H4
      have h3 := noD_abc hm hd
      obtain ⟨a, rfl⟩ : ∃ a : Nat, b = 97 + (a : Int) := ⟨(b - 97).toNat, by omega⟩
      obtain ⟨n, rfl⟩ : ∃ n : Nat, z = (n : Int) := ⟨z.toNat, by omega⟩
      have P1 := Lib.hid (fun V A c (h : StrsAt V A I) => Power_yes A c ms a n V h3 (by rw [← hI]; exact h) (by omega) (by omega))
      have P2 := Lib.hid (fun V A c (h : StrsAt V A I) => refPower_any A c ms a n V h3 (by rw [← hI]; exact h) (by omega) (by omega))
      cases hp : pwF ms n [a] with
      | none =>
        rw [hp] at P1 P2
        exact marksPowers_none A ss.length c _ _ I _ _ _ w hI3 z0 z1 z2 k0 k1 k3 k4 H1 P1 H3 H4 P2
      | some y =>
        rw [hp] at P1 P2
        exact marksPowers_some A ss.length c _ _ I _ _ _ (wS y) w hI3 z0 z1 z2 k0 k1 k3 k4 H1 P1 H3 H4 P2
    · rw [hd] at H4
      exact marksPowers_noD A ss.length c b z I _ _ _ w hI3 z0 z1 z2 k0 k1 H1 (Lib.hid (H2.out (.inl hd))) H3 H4
end Go.Proofs.Ytoklnpiehbnalaa
