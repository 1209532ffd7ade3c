/- Image without a map or a word; MarksImages walked. -/
import Derived.Test.YtoklnpiehbnalaaCW
import Derived.Test.YtoklnpiehbnalaaCH
namespace Go.Proofs.Ytoklnpiehbnalaa
open Go.RowKit Go.PlainAid
set_option maxHeartbeats 2000000
set_option maxRecDepth 100000
theorem nil_emptyI : (⟨#[]⟩ : ByteArray).toList.isEmpty = true := by rw [ba_list]; rfl
theorem Image_noMap (A : Option Addr) (c : Nat) (ss : List ByteArray) (s : ByteArray) (w : World) (h : okMp ss = false) (hs : ∀ i, (gets ss i).size ≤ 100000) (hl : ss.length ≤ 100000) (ha : StrsAt w A ss) :
    Calls Try.prog 40 #[.slice A ss.length c, .string s] w fun e w' => e = .returned (.tuple #[.string ⟨#[]⟩, .int .i64 2]) ∧ Below w.heap.size w w' := by
  have HRM : Hid (Calls Try.prog 67 #[.slice A ss.length c] w fun e w' => e = .returned (.tuple #[.agg #[.string ⟨#[]⟩, .string ⟨#[]⟩, .string ⟨#[]⟩], .bool false]) ∧ Below w.heap.size w w') := Lib.hid (by
    have := readMap_any A c ss w hs hl ha
    unfold rmV at this
    rw [h] at this
    exact this)
  have b0 := Below.refl w.heap.size w
  clear h hs hl ha
  generalize ss.length = n at *
  go_enter Try.func40, Try.ntmps40
  go_wp2_with (go_at_call 67; (with_reducible refine HRM.out.mono ?_); rintro e w2 ⟨rfl, b2⟩; replace b0 := (b0.trans (b2.mono b0.size)).alloc (by have := b2.size; omega) (.cells #[.string ⟨#[]⟩, .string ⟨#[]⟩, .string ⟨#[]⟩] 87))
  exact bodyPost_ret (v := .tuple #[.string ⟨#[]⟩, .int .i64 2]) (by simp [results, Try.results40, go_sem]) rfl ⟨rfl, b0⟩
theorem Image_bad (A : Option Addr) (c : Nat) (ms : List (List Nat)) (s : ByteArray) (w : World) (hm : IsMp ms) (ha : StrsAt w A (ms.map wS)) (hs : s.size ≤ 9223372036854775807) (h : okB s = false ∨ okB s = true ∧ s.data.toList.contains 100 = true) :
    Calls Try.prog 40 #[.slice A 3 c, .string s] w fun e w' => e = .returned (.tuple #[.string ⟨#[]⟩, .int .i64 2]) ∧ Below w.heap.size w w' := by
  obtain ⟨s0, s1, s2, h1, h2⟩ := mp_cells hm
  have hl3 : (ms.map wS).length = 3 := by rw [List.length_map]; exact hm.len
  have HRM : Hid (Calls Try.prog 67 #[.slice A 3 c] w fun e w' => e = .returned (.tuple #[.agg #[.string s0, .string s1, .string s2], .bool true]) ∧ Below w.heap.size w w') := Lib.hid (by
    have := readMap_any A c (ms.map wS) w (mp_size hm) (by omega) ha
    unfold rmV at this
    rw [okMp_iff.2 ⟨ms, hm, rfl⟩, if_pos rfl, h2, hl3] at this
    exact this)
  have HW := Lib.hid (fun V => isWord_any s V hs)
  have HM := Lib.hid (fun V => isMapped_any s V)
  have b0 := Below.refl w.heap.size w
  clear h1 h2 hl3 ha hm
  rcases h with h | ⟨h, hd⟩
  · rw [h] at HW
    clear h
    go_enter Try.func40, Try.ntmps40
    go_wp2_with (first
      | (go_at_call 67; (with_reducible refine HRM.out.mono ?_); rintro e w2 ⟨rfl, b2⟩; replace b0 := (b0.trans (b2.mono b0.size)).alloc (by have := b2.size; omega) (.cells #[.string s0, .string s1, .string s2] 87))
      | (go_at_call 58; (with_reducible refine (HW.out _).mono ?_); rintro e w3 ⟨rfl, b3⟩; replace b0 := b0.trans (b3.mono b0.size)))
    exact bodyPost_ret (v := .tuple #[.string ⟨#[]⟩, .int .i64 2]) (by simp [results, Try.results40, go_sem]) rfl ⟨rfl, b0⟩
  · rw [h] at HW
    rw [hd] at HM
    clear h hd
    go_enter Try.func40, Try.ntmps40
    go_wp2_with (first
      | (go_at_call 67; (with_reducible refine HRM.out.mono ?_); rintro e w2 ⟨rfl, b2⟩; replace b0 := (b0.trans (b2.mono b0.size)).alloc (by have := b2.size; omega) (.cells #[.string s0, .string s1, .string s2] 87))
      | (go_at_call 58; (with_reducible refine (HW.out _).mono ?_); rintro e w3 ⟨rfl, b3⟩; replace b0 := b0.trans (b3.mono b0.size))
      | (go_at_call 68; (with_reducible refine (HM.out _).mono ?_); rintro e w4 ⟨rfl, rfl⟩))
    exact bodyPost_ret (v := .tuple #[.string ⟨#[]⟩, .int .i64 2]) (by simp [results, Try.results40, go_sem]) rfl ⟨rfl, b0⟩
theorem mi_nomap (A : Option Addr) (N n c : Nat) (s t : ByteArray) (I : List ByteArray) (w : World)
    (H1 : Hid (∀ V, Below w.heap.size w V → Calls Try.prog 39 #[.slice A n c] V fun e w' => ∃ v, e = .returned v ∧ w'.ownsRow V.heap.size 9 1 v N (strv I) ∧ Below V.heap.size V w'))
    (H2 : Hid (∀ V, Calls Try.prog 19 #[.string s] V fun e w' => e = .returned (.string t) ∧ Below V.heap.size V w'))
    (H3 : Hid (∀ V A c, StrsAt V A I → Calls Try.prog 40 #[.slice A N c, .string t] V fun e w' => e = .returned (.tuple #[.string ⟨#[]⟩, .int .i64 2]) ∧ Below V.heap.size V w'))
    (H4 : Hid (∀ V A c, StrsAt V A I → Calls Try.prog 41 #[.slice A N c] V fun e w' => e = .returned (.tuple #[.string ⟨#[]⟩, .int .i64 2]) ∧ Below V.heap.size V w'))
    (H5 : Hid (∀ V A c, StrsAt V A I → Calls Try.prog 42 #[.slice A N c] V fun e w' => e = .returned (.bool false) ∧ V = w')) :
    Calls Try.prog 7 #[.slice A n c, .string s] w fun e w' => e = .returned (.bool true) ∧ Below w.heap.size w w' := by
  have HAW := Lib.hid awake_any
  have hne := nil_emptyI
  have hy1 : ((⟨#[]⟩ : ByteArray).toList != (⟨#[]⟩ : ByteArray).toList) = false := bne_self_eq_false _
  have b0 := Below.refl w.heap.size w
  go_enter Try.func7, Try.ntmps7
  go_wp2_with (first
    | (go_at_call 39; (with_reducible refine (H1.out _ b0).mono ?_); rintro e w2 ⟨v1, rfl, o1, b1⟩; replace b0 := b0.trans (b1.mono b0.size); obtain ⟨A1, c1, rfl, hN1, -, st⟩ := own_strs o1; rw [← hN1]; clear hN1 o1)
    | (go_at_call 19; (with_reducible refine (H2.out _).mono ?_); rintro e w3 ⟨rfl, b3⟩; replace b0 := b0.trans (b3.mono b0.size); replace st := st.below b3)
    | (go_at_call 40; (with_reducible refine (H3.out _ _ _ st).mono ?_); rintro e w4 ⟨rfl, b4⟩; replace b0 := b0.trans (b4.mono b0.size); replace st := st.below b4)
    | (go_at_call 41; (with_reducible refine (H4.out _ _ _ st).mono ?_); rintro e w5 ⟨rfl, b5⟩; replace b0 := b0.trans (b5.mono b0.size); replace st := st.below b5)
    | (go_at_call 42; (with_reducible refine (H5.out _ _ _ st).mono ?_); rintro e w6 ⟨rfl, rfl⟩)
    | (go_at_call 24; (with_reducible refine (HAW.out _).mono ?_); rintro e w11 ⟨rfl, b11⟩; replace b0 := b0.trans (b11.mono b0.size)))
  go_ret
  exact ⟨rfl, b0⟩
theorem mi_some_noword (A : Option Addr) (n c : Nat) (s t y : ByteArray) (I : List ByteArray) (w : World)
    (H1 : Hid (∀ V, Below w.heap.size w V → Calls Try.prog 39 #[.slice A n c] V fun e w' => ∃ v, e = .returned v ∧ w'.ownsRow V.heap.size 9 1 v 3 (strv I) ∧ Below V.heap.size V w'))
    (H2 : Hid (∀ V, Calls Try.prog 19 #[.string s] V fun e w' => e = .returned (.string t) ∧ Below V.heap.size V w'))
    (H3 : Hid (∀ V A c, StrsAt V A I → Calls Try.prog 40 #[.slice A 3 c, .string t] V fun e w' => e = .returned (.tuple #[.string ⟨#[]⟩, .int .i64 2]) ∧ Below V.heap.size V w'))
    (H4 : Hid (∀ V A c, StrsAt V A I → Calls Try.prog 41 #[.slice A 3 c] V fun e w' => e = .returned (.tuple #[.string y, .int .i64 0]) ∧ Below V.heap.size V w'))
    (H5 : Hid (∀ V A c, StrsAt V A I → Calls Try.prog 42 #[.slice A 3 c] V fun e w' => e = .returned (.bool true) ∧ V = w'))
    (H6 : Hid (∀ V A c, StrsAt V A I → Calls Try.prog 43 #[.slice A 3 c] V fun e w' => e = .returned (.tuple #[.string y, .bool true]) ∧ Below V.heap.size V w'))
    (H7 : Hid (∀ V, Calls Try.prog 23 #[.string t] V fun e w' => e = .returned (.bool false) ∧ V = w')) :
    Calls Try.prog 7 #[.slice A n c, .string s] w fun e w' => e = .returned (.bool true) ∧ Below w.heap.size w w' := by
  have HAW := Lib.hid awake_any
  have hne := nil_emptyI
  have hy1 : (y.toList == y.toList) = true := beq_self_eq_true _
  have hy2 : (y.toList != y.toList) = false := bne_self_eq_false _
  have b0 := Below.refl w.heap.size w
  go_enter Try.func7, Try.ntmps7
  go_wp2_with (first
    | (go_at_call 39; (with_reducible refine (H1.out _ b0).mono ?_); rintro e w2 ⟨v1, rfl, o1, b1⟩; replace b0 := b0.trans (b1.mono b0.size); obtain ⟨A1, c1, rfl, hN1, -, st⟩ := own_strs o1; rw [← hN1]; clear hN1 o1)
    | (go_at_call 19; (with_reducible refine (H2.out _).mono ?_); rintro e w3 ⟨rfl, b3⟩; replace b0 := b0.trans (b3.mono b0.size); replace st := st.below b3)
    | (go_at_call 40; (with_reducible refine (H3.out _ _ _ st).mono ?_); rintro e w4 ⟨rfl, b4⟩; replace b0 := b0.trans (b4.mono b0.size); replace st := st.below b4)
    | (go_at_call 41; (with_reducible refine (H4.out _ _ _ st).mono ?_); rintro e w5 ⟨rfl, b5⟩; replace b0 := b0.trans (b5.mono b0.size); replace st := st.below b5)
    | (go_at_call 42; (with_reducible refine (H5.out _ _ _ st).mono ?_); rintro e w6 ⟨rfl, rfl⟩)
    | (go_at_call 43; (with_reducible refine (H6.out _ _ _ st).mono ?_); rintro e w7 ⟨rfl, b7⟩; replace b0 := b0.trans (b7.mono b0.size); replace st := st.below b7)
    | (go_at_call 23; (with_reducible refine (H7.out _).mono ?_); rintro e w8 ⟨rfl, rfl⟩)
    | (go_at_call 24; (with_reducible refine (HAW.out _).mono ?_); rintro e w11 ⟨rfl, b11⟩; replace b0 := b0.trans (b11.mono b0.size)))
  go_ret
  exact ⟨rfl, b0⟩
theorem mi_some_nolet (A : Option Addr) (n c : Nat) (s t y : ByteArray) (I : List ByteArray) (w : World)
    (H1 : Hid (∀ V, Below w.heap.size w V → Calls Try.prog 39 #[.slice A n c] V fun e w' => ∃ v, e = .returned v ∧ w'.ownsRow V.heap.size 9 1 v 3 (strv I) ∧ Below V.heap.size V w'))
    (H2 : Hid (∀ V, Calls Try.prog 19 #[.string s] V fun e w' => e = .returned (.string t) ∧ Below V.heap.size V w'))
    (H3 : Hid (∀ V A c, StrsAt V A I → Calls Try.prog 40 #[.slice A 3 c, .string t] V fun e w' => e = .returned (.tuple #[.string ⟨#[]⟩, .int .i64 2]) ∧ Below V.heap.size V w'))
    (H4 : Hid (∀ V A c, StrsAt V A I → Calls Try.prog 41 #[.slice A 3 c] V fun e w' => e = .returned (.tuple #[.string y, .int .i64 0]) ∧ Below V.heap.size V w'))
    (H5 : Hid (∀ V A c, StrsAt V A I → Calls Try.prog 42 #[.slice A 3 c] V fun e w' => e = .returned (.bool true) ∧ V = w'))
    (H6 : Hid (∀ V A c, StrsAt V A I → Calls Try.prog 43 #[.slice A 3 c] V fun e w' => e = .returned (.tuple #[.string y, .bool true]) ∧ Below V.heap.size V w'))
    (H7 : Hid (∀ V, Calls Try.prog 23 #[.string t] V fun e w' => e = .returned (.bool true) ∧ V = w'))
    (H8 : Hid (∀ V, Calls Try.prog 44 #[.string t, .int .i64 3] V fun e w' => e = .returned (.bool false) ∧ V = w')) :
    Calls Try.prog 7 #[.slice A n c, .string s] w fun e w' => e = .returned (.bool true) ∧ Below w.heap.size w w' := by
  have HAW := Lib.hid awake_any
  have hne := nil_emptyI
  have hy1 : (y.toList == y.toList) = true := beq_self_eq_true _
  have hy2 : (y.toList != y.toList) = false := bne_self_eq_false _
  have b0 := Below.refl w.heap.size w
  go_enter Try.func7, Try.ntmps7
  go_wp2_with (first
    | (go_at_call 39; (with_reducible refine (H1.out _ b0).mono ?_); rintro e w2 ⟨v1, rfl, o1, b1⟩; replace b0 := b0.trans (b1.mono b0.size); obtain ⟨A1, c1, rfl, hN1, -, st⟩ := own_strs o1; rw [← hN1]; clear hN1 o1)
    | (go_at_call 19; (with_reducible refine (H2.out _).mono ?_); rintro e w3 ⟨rfl, b3⟩; replace b0 := b0.trans (b3.mono b0.size); replace st := st.below b3)
    | (go_at_call 40; (with_reducible refine (H3.out _ _ _ st).mono ?_); rintro e w4 ⟨rfl, b4⟩; replace b0 := b0.trans (b4.mono b0.size); replace st := st.below b4)
    | (go_at_call 41; (with_reducible refine (H4.out _ _ _ st).mono ?_); rintro e w5 ⟨rfl, b5⟩; replace b0 := b0.trans (b5.mono b0.size); replace st := st.below b5)
    | (go_at_call 42; (with_reducible refine (H5.out _ _ _ st).mono ?_); rintro e w6 ⟨rfl, rfl⟩)
    | (go_at_call 43; (with_reducible refine (H6.out _ _ _ st).mono ?_); rintro e w7 ⟨rfl, b7⟩; replace b0 := b0.trans (b7.mono b0.size); replace st := st.below b7)
    | (go_at_call 23; (with_reducible refine (H7.out _).mono ?_); rintro e w8 ⟨rfl, rfl⟩)
    | (go_at_call 44; (with_reducible refine (H8.out _).mono ?_); rintro e w9 ⟨rfl, rfl⟩)
    | (go_at_call 24; (with_reducible refine (HAW.out _).mono ?_); rintro e w11 ⟨rfl, b11⟩; replace b0 := b0.trans (b11.mono b0.size)))
  go_ret
  exact ⟨rfl, b0⟩
theorem mi_some_good (A : Option Addr) (n c : Nat) (s t i y : ByteArray) (I : List ByteArray) (w : World)
    (H1 : Hid (∀ V, Below w.heap.size w V → Calls Try.prog 39 #[.slice A n c] V fun e w' => ∃ v, e = .returned v ∧ w'.ownsRow V.heap.size 9 1 v 3 (strv I) ∧ Below V.heap.size V w'))
    (H2 : Hid (∀ V, Calls Try.prog 19 #[.string s] V fun e w' => e = .returned (.string t) ∧ Below V.heap.size V w'))
    (H3 : Hid (∀ V A c, StrsAt V A I → Calls Try.prog 40 #[.slice A 3 c, .string t] V fun e w' => e = .returned (.tuple #[.string i, .int .i64 0]) ∧ Below V.heap.size V w'))
    (H4 : Hid (∀ V A c, StrsAt V A I → Calls Try.prog 41 #[.slice A 3 c] V fun e w' => e = .returned (.tuple #[.string y, .int .i64 0]) ∧ Below V.heap.size V w'))
    (H5 : Hid (∀ V A c, StrsAt V A I → Calls Try.prog 42 #[.slice A 3 c] V fun e w' => e = .returned (.bool true) ∧ V = w'))
    (H6 : Hid (∀ V A c, StrsAt V A I → Calls Try.prog 43 #[.slice A 3 c] V fun e w' => e = .returned (.tuple #[.string y, .bool true]) ∧ Below V.heap.size V w'))
    (H7 : Hid (∀ V, Calls Try.prog 23 #[.string t] V fun e w' => e = .returned (.bool true) ∧ V = w'))
    (H8 : Hid (∀ V, Calls Try.prog 44 #[.string t, .int .i64 3] V fun e w' => e = .returned (.bool true) ∧ V = w'))
    (H9 : Hid (∀ V A c, StrsAt V A I → Calls Try.prog 45 #[.slice A 3 c, .string t] V fun e w' => e = .returned (.string i) ∧ V = w')) :
    Calls Try.prog 7 #[.slice A n c, .string s] w fun e w' => e = .returned (.bool true) ∧ Below w.heap.size w w' := by
  have HAW := Lib.hid awake_any
  have hne := nil_emptyI
  have hy1 : (y.toList == y.toList) = true := beq_self_eq_true _
  have hy2 : (y.toList != y.toList) = false := bne_self_eq_false _
  have hi1 : (i.toList == i.toList) = true := beq_self_eq_true _
  have b0 := Below.refl w.heap.size w
  go_enter Try.func7, Try.ntmps7
  go_wp2_with (first
    | (go_at_call 39; (with_reducible refine (H1.out _ b0).mono ?_); rintro e w2 ⟨v1, rfl, o1, b1⟩; replace b0 := b0.trans (b1.mono b0.size); obtain ⟨A1, c1, rfl, hN1, -, st⟩ := own_strs o1; rw [← hN1]; clear hN1 o1)
    | (go_at_call 19; (with_reducible refine (H2.out _).mono ?_); rintro e w3 ⟨rfl, b3⟩; replace b0 := b0.trans (b3.mono b0.size); replace st := st.below b3)
    | (go_at_call 40; (with_reducible refine (H3.out _ _ _ st).mono ?_); rintro e w4 ⟨rfl, b4⟩; replace b0 := b0.trans (b4.mono b0.size); replace st := st.below b4)
    | (go_at_call 41; (with_reducible refine (H4.out _ _ _ st).mono ?_); rintro e w5 ⟨rfl, b5⟩; replace b0 := b0.trans (b5.mono b0.size); replace st := st.below b5)
    | (go_at_call 42; (with_reducible refine (H5.out _ _ _ st).mono ?_); rintro e w6 ⟨rfl, rfl⟩)
    | (go_at_call 43; (with_reducible refine (H6.out _ _ _ st).mono ?_); rintro e w7 ⟨rfl, b7⟩; replace b0 := b0.trans (b7.mono b0.size); replace st := st.below b7)
    | (go_at_call 23; (with_reducible refine (H7.out _).mono ?_); rintro e w8 ⟨rfl, rfl⟩)
    | (go_at_call 44; (with_reducible refine (H8.out _).mono ?_); rintro e w9 ⟨rfl, rfl⟩)
    | (go_at_call 45; (with_reducible refine (H9.out _ _ _ st).mono ?_); rintro e w10 ⟨rfl, rfl⟩)
    | (go_at_call 24; (with_reducible refine (HAW.out _).mono ?_); rintro e w11 ⟨rfl, b11⟩; replace b0 := b0.trans (b11.mono b0.size)))
  go_ret
  exact ⟨rfl, b0⟩
theorem mi_none_noword (A : Option Addr) (n c : Nat) (s t : ByteArray) (I : List ByteArray) (w : World)
    (H1 : Hid (∀ V, Below w.heap.size w V → Calls Try.prog 39 #[.slice A n c] V fun e w' => ∃ v, e = .returned v ∧ w'.ownsRow V.heap.size 9 1 v 3 (strv I) ∧ Below V.heap.size V w'))
    (H2 : Hid (∀ V, Calls Try.prog 19 #[.string s] V fun e w' => e = .returned (.string t) ∧ Below V.heap.size V w'))
    (H3 : Hid (∀ V A c, StrsAt V A I → Calls Try.prog 40 #[.slice A 3 c, .string t] V fun e w' => e = .returned (.tuple #[.string ⟨#[]⟩, .int .i64 2]) ∧ Below V.heap.size V w'))
    (H4 : Hid (∀ V A c, StrsAt V A I → Calls Try.prog 41 #[.slice A 3 c] V fun e w' => e = .returned (.tuple #[.string ⟨#[]⟩, .int .i64 6]) ∧ Below V.heap.size V w'))
    (H5 : Hid (∀ V A c, StrsAt V A I → Calls Try.prog 42 #[.slice A 3 c] V fun e w' => e = .returned (.bool true) ∧ V = w'))
    (H6 : Hid (∀ V A c, StrsAt V A I → Calls Try.prog 43 #[.slice A 3 c] V fun e w' => e = .returned (.tuple #[.string ⟨#[]⟩, .bool false]) ∧ Below V.heap.size V w'))
    (H7 : Hid (∀ V, Calls Try.prog 23 #[.string t] V fun e w' => e = .returned (.bool false) ∧ V = w')) :
    Calls Try.prog 7 #[.slice A n c, .string s] w fun e w' => e = .returned (.bool true) ∧ Below w.heap.size w w' := by
  have HAW := Lib.hid awake_any
  have hne := nil_emptyI
  have hy1 : ((⟨#[]⟩ : ByteArray).toList != (⟨#[]⟩ : ByteArray).toList) = false := bne_self_eq_false _
  have b0 := Below.refl w.heap.size w
  go_enter Try.func7, Try.ntmps7
  go_wp2_with (first
    | (go_at_call 39; (with_reducible refine (H1.out _ b0).mono ?_); rintro e w2 ⟨v1, rfl, o1, b1⟩; replace b0 := b0.trans (b1.mono b0.size); obtain ⟨A1, c1, rfl, hN1, -, st⟩ := own_strs o1; rw [← hN1]; clear hN1 o1)
    | (go_at_call 19; (with_reducible refine (H2.out _).mono ?_); rintro e w3 ⟨rfl, b3⟩; replace b0 := b0.trans (b3.mono b0.size); replace st := st.below b3)
    | (go_at_call 40; (with_reducible refine (H3.out _ _ _ st).mono ?_); rintro e w4 ⟨rfl, b4⟩; replace b0 := b0.trans (b4.mono b0.size); replace st := st.below b4)
    | (go_at_call 41; (with_reducible refine (H4.out _ _ _ st).mono ?_); rintro e w5 ⟨rfl, b5⟩; replace b0 := b0.trans (b5.mono b0.size); replace st := st.below b5)
    | (go_at_call 42; (with_reducible refine (H5.out _ _ _ st).mono ?_); rintro e w6 ⟨rfl, rfl⟩)
    | (go_at_call 43; (with_reducible refine (H6.out _ _ _ st).mono ?_); rintro e w7 ⟨rfl, b7⟩; replace b0 := b0.trans (b7.mono b0.size); replace st := st.below b7)
    | (go_at_call 23; (with_reducible refine (H7.out _).mono ?_); rintro e w8 ⟨rfl, rfl⟩)
    | (go_at_call 24; (with_reducible refine (HAW.out _).mono ?_); rintro e w11 ⟨rfl, b11⟩; replace b0 := b0.trans (b11.mono b0.size)))
  go_ret
  exact ⟨rfl, b0⟩
theorem mi_none_nolet (A : Option Addr) (n c : Nat) (s t : ByteArray) (I : List ByteArray) (w : World)
    (H1 : Hid (∀ V, Below w.heap.size w V → Calls Try.prog 39 #[.slice A n c] V fun e w' => ∃ v, e = .returned v ∧ w'.ownsRow V.heap.size 9 1 v 3 (strv I) ∧ Below V.heap.size V w'))
    (H2 : Hid (∀ V, Calls Try.prog 19 #[.string s] V fun e w' => e = .returned (.string t) ∧ Below V.heap.size V w'))
    (H3 : Hid (∀ V A c, StrsAt V A I → Calls Try.prog 40 #[.slice A 3 c, .string t] V fun e w' => e = .returned (.tuple #[.string ⟨#[]⟩, .int .i64 2]) ∧ Below V.heap.size V w'))
    (H4 : Hid (∀ V A c, StrsAt V A I → Calls Try.prog 41 #[.slice A 3 c] V fun e w' => e = .returned (.tuple #[.string ⟨#[]⟩, .int .i64 6]) ∧ Below V.heap.size V w'))
    (H5 : Hid (∀ V A c, StrsAt V A I → Calls Try.prog 42 #[.slice A 3 c] V fun e w' => e = .returned (.bool true) ∧ V = w'))
    (H6 : Hid (∀ V A c, StrsAt V A I → Calls Try.prog 43 #[.slice A 3 c] V fun e w' => e = .returned (.tuple #[.string ⟨#[]⟩, .bool false]) ∧ Below V.heap.size V w'))
    (H7 : Hid (∀ V, Calls Try.prog 23 #[.string t] V fun e w' => e = .returned (.bool true) ∧ V = w'))
    (H8 : Hid (∀ V, Calls Try.prog 44 #[.string t, .int .i64 3] V fun e w' => e = .returned (.bool false) ∧ V = w')) :
    Calls Try.prog 7 #[.slice A n c, .string s] w fun e w' => e = .returned (.bool true) ∧ Below w.heap.size w w' := by
  have HAW := Lib.hid awake_any
  have hne := nil_emptyI
  have hy1 : ((⟨#[]⟩ : ByteArray).toList != (⟨#[]⟩ : ByteArray).toList) = false := bne_self_eq_false _
  have b0 := Below.refl w.heap.size w
  go_enter Try.func7, Try.ntmps7
  go_wp2_with (first
    | (go_at_call 39; (with_reducible refine (H1.out _ b0).mono ?_); rintro e w2 ⟨v1, rfl, o1, b1⟩; replace b0 := b0.trans (b1.mono b0.size); obtain ⟨A1, c1, rfl, hN1, -, st⟩ := own_strs o1; rw [← hN1]; clear hN1 o1)
    | (go_at_call 19; (with_reducible refine (H2.out _).mono ?_); rintro e w3 ⟨rfl, b3⟩; replace b0 := b0.trans (b3.mono b0.size); replace st := st.below b3)
    | (go_at_call 40; (with_reducible refine (H3.out _ _ _ st).mono ?_); rintro e w4 ⟨rfl, b4⟩; replace b0 := b0.trans (b4.mono b0.size); replace st := st.below b4)
    | (go_at_call 41; (with_reducible refine (H4.out _ _ _ st).mono ?_); rintro e w5 ⟨rfl, b5⟩; replace b0 := b0.trans (b5.mono b0.size); replace st := st.below b5)
    | (go_at_call 42; (with_reducible refine (H5.out _ _ _ st).mono ?_); rintro e w6 ⟨rfl, rfl⟩)
    | (go_at_call 43; (with_reducible refine (H6.out _ _ _ st).mono ?_); rintro e w7 ⟨rfl, b7⟩; replace b0 := b0.trans (b7.mono b0.size); replace st := st.below b7)
    | (go_at_call 23; (with_reducible refine (H7.out _).mono ?_); rintro e w8 ⟨rfl, rfl⟩)
    | (go_at_call 44; (with_reducible refine (H8.out _).mono ?_); rintro e w9 ⟨rfl, rfl⟩)
    | (go_at_call 24; (with_reducible refine (HAW.out _).mono ?_); rintro e w11 ⟨rfl, b11⟩; replace b0 := b0.trans (b11.mono b0.size)))
  go_ret
  exact ⟨rfl, b0⟩
theorem mi_none_good (A : Option Addr) (n c : Nat) (s t i : ByteArray) (I : List ByteArray) (w : World)
    (H1 : Hid (∀ V, Below w.heap.size w V → Calls Try.prog 39 #[.slice A n c] V fun e w' => ∃ v, e = .returned v ∧ w'.ownsRow V.heap.size 9 1 v 3 (strv I) ∧ Below V.heap.size V w'))
    (H2 : Hid (∀ V, Calls Try.prog 19 #[.string s] V fun e w' => e = .returned (.string t) ∧ Below V.heap.size V w'))
    (H3 : Hid (∀ V A c, StrsAt V A I → Calls Try.prog 40 #[.slice A 3 c, .string t] V fun e w' => e = .returned (.tuple #[.string i, .int .i64 0]) ∧ Below V.heap.size V w'))
    (H4 : Hid (∀ V A c, StrsAt V A I → Calls Try.prog 41 #[.slice A 3 c] V fun e w' => e = .returned (.tuple #[.string ⟨#[]⟩, .int .i64 6]) ∧ Below V.heap.size V w'))
    (H5 : Hid (∀ V A c, StrsAt V A I → Calls Try.prog 42 #[.slice A 3 c] V fun e w' => e = .returned (.bool true) ∧ V = w'))
    (H6 : Hid (∀ V A c, StrsAt V A I → Calls Try.prog 43 #[.slice A 3 c] V fun e w' => e = .returned (.tuple #[.string ⟨#[]⟩, .bool false]) ∧ Below V.heap.size V w'))
    (H7 : Hid (∀ V, Calls Try.prog 23 #[.string t] V fun e w' => e = .returned (.bool true) ∧ V = w'))
    (H8 : Hid (∀ V, Calls Try.prog 44 #[.string t, .int .i64 3] V fun e w' => e = .returned (.bool true) ∧ V = w'))
    (H9 : Hid (∀ V A c, StrsAt V A I → Calls Try.prog 45 #[.slice A 3 c, .string t] V fun e w' => e = .returned (.string i) ∧ V = w')) :
    Calls Try.prog 7 #[.slice A n c, .string s] w fun e w' => e = .returned (.bool true) ∧ Below w.heap.size w w' := by
  have HAW := Lib.hid awake_any
  have hne := nil_emptyI
  have hy1 : ((⟨#[]⟩ : ByteArray).toList != (⟨#[]⟩ : ByteArray).toList) = false := bne_self_eq_false _
  have hi1 : (i.toList == i.toList) = true := beq_self_eq_true _
  have b0 := Below.refl w.heap.size w
  go_enter Try.func7, Try.ntmps7
  go_wp2_with (first
    | (go_at_call 39; (with_reducible refine (H1.out _ b0).mono ?_); rintro e w2 ⟨v1, rfl, o1, b1⟩; replace b0 := b0.trans (b1.mono b0.size); obtain ⟨A1, c1, rfl, hN1, -, st⟩ := own_strs o1; rw [← hN1]; clear hN1 o1)
    | (go_at_call 19; (with_reducible refine (H2.out _).mono ?_); rintro e w3 ⟨rfl, b3⟩; replace b0 := b0.trans (b3.mono b0.size); replace st := st.below b3)
    | (go_at_call 40; (with_reducible refine (H3.out _ _ _ st).mono ?_); rintro e w4 ⟨rfl, b4⟩; replace b0 := b0.trans (b4.mono b0.size); replace st := st.below b4)
    | (go_at_call 41; (with_reducible refine (H4.out _ _ _ st).mono ?_); rintro e w5 ⟨rfl, b5⟩; replace b0 := b0.trans (b5.mono b0.size); replace st := st.below b5)
    | (go_at_call 42; (with_reducible refine (H5.out _ _ _ st).mono ?_); rintro e w6 ⟨rfl, rfl⟩)
    | (go_at_call 43; (with_reducible refine (H6.out _ _ _ st).mono ?_); rintro e w7 ⟨rfl, b7⟩; replace b0 := b0.trans (b7.mono b0.size); replace st := st.below b7)
    | (go_at_call 23; (with_reducible refine (H7.out _).mono ?_); rintro e w8 ⟨rfl, rfl⟩)
    | (go_at_call 44; (with_reducible refine (H8.out _).mono ?_); rintro e w9 ⟨rfl, rfl⟩)
    | (go_at_call 45; (with_reducible refine (H9.out _ _ _ st).mono ?_); rintro e w10 ⟨rfl, rfl⟩)
    | (go_at_call 24; (with_reducible refine (HAW.out _).mono ?_); rintro e w11 ⟨rfl, b11⟩; replace b0 := b0.trans (b11.mono b0.size)))
  go_ret
  exact ⟨rfl, b0⟩
theorem marksImages_any (A : Option Addr) (c : Nat) (ss : List ByteArray) (s : ByteArray) (w : World) (hx : ss.length ≤ c) (hc : c ≤ maxLen) (hz : ∀ i, (gets ss i).size ≤ maxLen) (ha : StrsAt w A ss) (hs : s.size ≤ maxLen) :
    Calls Try.prog 7 #[.slice A ss.length c, .string s] w fun e w' => e = .returned (.bool true) ∧ Below w.heap.size w w' := by
  unfold maxLen at hc hz hs
  have hl4 := iMs_len ss
  have hsz := iMs_size ss
  have H1 : Hid (∀ V, Below w.heap.size w V → Calls Try.prog 39 #[.slice A ss.length c] V fun e w' => ∃ v, e = .returned v ∧ w'.ownsRow V.heap.size 9 1 v (iMs ss).length (strv (iMs ss)) ∧ Below V.heap.size V w') := Lib.hid (fun V hV => images_any A c ss V (by omega) hz (ha.below hV))
  have H2 := Lib.hid (fun V => short_call s V hs)
  have htl := shB_len s
  generalize shB s = t at *
  generalize iMs ss = I at *
  cases hok : okMp I
  · have H5 : Hid (∀ V A c, StrsAt V A I → Calls Try.prog 42 #[.slice A I.length c] V fun e w' => e = .returned (.bool false) ∧ V = w') := Lib.hid (fun V A c h => by
      have := refMap_any A c I V hsz (by omega) h
      rw [hok] at this; exact this)
    exact mi_nomap A I.length _ c s t I w H1 H2 (Lib.hid (fun V A c h => Image_noMap A c I t V hok hsz (by omega) h)) (Lib.hid (fun V A c h => Keeps_no A c I V hok hsz (by omega) h)) H5
  · obtain ⟨ms, hm, rfl⟩ := okMp_iff.1 hok
    have hlen : (ms.map wS).length = 3 := by rw [List.length_map]; exact hm.len
    have H5 : Hid (∀ V A c, StrsAt V A (ms.map wS) → Calls Try.prog 42 #[.slice A 3 c] V fun e w' => e = .returned (.bool true) ∧ V = w') := Lib.hid (fun V A c h => by
      have := refMap_any A c (ms.map wS) V hsz (by omega) h
      rw [hok, hlen] at this; exact this)
    rw [hlen] at H1
    have H4 := fun V A c h => Keeps_yes A c ms V hm h
    have H6 := fun V A c h => refKeeps_any A c ms V hm h
    have H7 := fun V => refWord_any t V (by omega)
    have H8 := fun V => refLetters_any t 3 V (by omega) (by decide)
    cases hw : okB t with
    | false =>
      rw [hw] at H7
      have H3 := Lib.hid (fun V A c h => Image_bad A c ms t V hm h (by omega) (.inl hw))
      cases hk : kpX ms with
      | some y => rw [hk] at H4 H6; exact mi_some_noword A _ c s t (wS y) _ w H1 H2 H3 (Lib.hid H4) H5 (Lib.hid H6) (Lib.hid H7)
      | none => rw [hk] at H4 H6; exact mi_none_noword A _ c s t _ w H1 H2 H3 (Lib.hid H4) H5 (Lib.hid H6) (Lib.hid H7)
    | true =>
      rw [hw] at H7
      obtain ⟨x, rfl, hxo, hxl⟩ := okB_word hw
      rw [ltK_three hxo] at H8
      cases hd : x.contains 3 with
      | true =>
        rw [hd] at H8
        have H3 := Lib.hid (fun V A c h => Image_bad A c ms (wS x) V hm h (by omega) (.inr ⟨hw, mapped_d hxo (List.contains_iff_mem.1 hd)⟩))
        cases hk : kpX ms with
        | some y => rw [hk] at H4 H6; exact mi_some_nolet A _ c s _ (wS y) _ w H1 H2 H3 (Lib.hid H4) H5 (Lib.hid H6) (Lib.hid H7) (Lib.hid H8)
        | none => rw [hk] at H4 H6; exact mi_none_nolet A _ c s _ _ w H1 H2 H3 (Lib.hid H4) H5 (Lib.hid H6) (Lib.hid H7) (Lib.hid H8)
      | false =>
        rw [hd] at H8
        have hx3 : ∀ b, b ∈ x → b < 3 := fun b hb => by
          have h1 := hxo b hb
          have h2 : b ≠ 3 := fun e => by
            rw [e] at hb
            rw [List.contains_iff_mem.2 hb] at hd; cases hd
          omega
        have H3 := Lib.hid (fun V A c h => Image_yes A c ms x V hm h hx3 hxl)
        have H9 := Lib.hid (fun V A c h => refImage_any A c ms x V hm h hx3 (by omega))
        cases hk : kpX ms with
        | some y => rw [hk] at H4 H6; exact mi_some_good A _ c s _ _ (wS y) _ w H1 H2 H3 (Lib.hid H4) H5 (Lib.hid H6) (Lib.hid H7) (Lib.hid H8) H9
        | none => rw [hk] at H4 H6; exact mi_none_good A _ c s _ _ _ w H1 H2 H3 (Lib.hid H4) H5 (Lib.hid H6) (Lib.hid H7) (Lib.hid H8) H9
end Go.Proofs.Ytoklnpiehbnalaa
