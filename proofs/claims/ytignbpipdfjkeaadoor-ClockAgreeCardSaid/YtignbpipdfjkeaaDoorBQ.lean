/- ClockImages walked. -/
import Derived.Test.YtignbpipdfjkeaaDoorBN
import Derived.Test.YtignbpipdfjkeaaDoorBO
import Derived.Test.YtignbpipdfjkeaaDoorBP
import Derived.Test.YtignbpipdfjkeaaDoorBF
namespace Go.Proofs.YtignbpipdfjkeaaDoor
open Go.RowKit Go.PlainAid
set_option maxHeartbeats 2000000
set_option maxRecDepth 100000
/-- A list of the call's own, to be read. -/
def LstR (w : World) (l : List Int) (e : Ending) (w' : World) : Prop := ∃ A c, e = .returned (.slice A l.length c) ∧ IntsAt w' A l ∧ Below w.heap.size w w'
theorem NewL.lst {w w' : World} {l : List Int} {e : Ending} (h : NewL w l e w') : LstR w l e w' := by
  obtain ⟨v, rfl, o, b⟩ := h
  obtain ⟨A, c, rfl, -, -, i⟩ := own_intsI o
  exact ⟨A, c, rfl, i, b⟩
def LstER (w : World) (l : List Int) (x : Int) (e : Ending) (w' : World) : Prop := ∃ A c, e = .returned (.tuple #[.slice A l.length c, .int .i64 x]) ∧ IntsAt w' A l ∧ Below w.heap.size w w'
theorem NewLE.lst {w w' : World} {l : List Int} {x : Int} {e : Ending} (h : NewLE w l x e w') : LstER w l x e w' := by
  obtain ⟨v, rfl, o, b⟩ := h
  obtain ⟨A, c, rfl, -, -, i⟩ := own_intsI o
  exact ⟨A, c, rfl, i, b⟩
theorem ci_no (A B : Option Addr) (c d n m : Nat) (s : ByteArray) (w : World) (M : List (List Int)) (l : List Int)
    (HT : Hid (∀ V, Below w.heap.size w V → Calls Tryd.prog 16 #[.slice A n c] V (TabM V M)))
    (HL : Hid (∀ V, Below w.heap.size w V → Calls Tryd.prog 31 #[.slice B m d] V (LstR V l)))
    (HAW : Hid (∀ V, Below w.heap.size w V → Calls Tryd.prog 22 #[] V fun e w' => e = .returned (.bool true) ∧ Below V.heap.size V w'))
    (hs : s.size ≤ 9223372036854775807)
    (HRM : Hid (∀ V A c, RowsAt V A M → Calls Tryd.prog 21 #[.slice A M.length c] V fun e w' => e = .returned (.bool false) ∧ V = w'))
    (HI : Hid (∀ V A B c d, Below w.heap.size w V → RowsAt V A M → IntsAt V B l → Calls Tryd.prog 32 #[.slice A M.length c, .slice B l.length d, .string (s.extract 0 (min s.size 1001))] V fun e w' => e = .returned (.tuple #[.slice none 0 0, .int .i64 2]) ∧ Below V.heap.size V w')) :
    Calls Tryd.prog 5 #[.slice A n c, .slice B m d, .string s] w fun e w' => e = .returned (.bool true) ∧ Below w.heap.size w w' := by
  have b0 := Below.refl w.heap.size w
  have hm1 : min (s.size : Int) 1001 = ((min s.size 1001 : Nat) : Int) := by omega
  have hm2 : min s.size 1001 ≤ s.size := by omega
  obtain ⟨k, hk⟩ : ∃ k, min s.size 1001 = k := ⟨_, rfl⟩
  rw [hk] at HI hm1 hm2
  clear hk
  go_enter Tryd.func5, Tryd.ntmps5
  go_wp2_with (first
    | (go_at_call 16; refine (HT.out _ b0).mono ?_; rintro e w1 ⟨A1, c1, rfl, ra, b1⟩; replace b0 := b0.trans (b1.mono b0.size))
    | (go_at_call 31; refine (HL.out _ b0).mono ?_; rintro e w2 ⟨A2, c2, rfl, ia, b2⟩; replace b0 := b0.trans (b2.mono b0.size); replace ra := ra.below b2)
    | (go_at_call 32; refine (HI.out _ _ _ _ _ b0 ra ia).mono ?_; rintro e w3 ⟨rfl, b3⟩; replace b0 := b0.trans (b3.mono b0.size); replace ra := ra.below b3; replace ia := ia.below b3)
    | (go_at_call 21; refine (HRM.out _ _ _ ra).mono ?_; rintro e w4 ⟨rfl, rfl⟩)
    | (go_at_call 22; refine (HAW.out _ b0).mono ?_; rintro e w5 ⟨rfl, b5⟩; replace b0 := b0.trans (b5.mono b0.size)))
  go_ret
  exact ⟨rfl, b0⟩
theorem ci_s1 (A B : Option Addr) (c d n m : Nat) (s : ByteArray) (w : World) (M : List (List Int)) (l : List Int)
    (HT : Hid (∀ V, Below w.heap.size w V → Calls Tryd.prog 16 #[.slice A n c] V (TabM V M)))
    (HL : Hid (∀ V, Below w.heap.size w V → Calls Tryd.prog 31 #[.slice B m d] V (LstR V l)))
    (HAW : Hid (∀ V, Below w.heap.size w V → Calls Tryd.prog 22 #[] V fun e w' => e = .returned (.bool true) ∧ Below V.heap.size V w'))
    (hs : s.size ≤ 9223372036854775807)
    (HRM : Hid (∀ V A c, RowsAt V A M → Calls Tryd.prog 21 #[.slice A M.length c] V fun e w' => e = .returned (.bool true) ∧ V = w'))
    (HI : Hid (∀ V A B c d, Below w.heap.size w V → RowsAt V A M → IntsAt V B l → Calls Tryd.prog 32 #[.slice A M.length c, .slice B l.length d, .string (s.extract 0 (min s.size 1001))] V fun e w' => e = .returned (.tuple #[.slice none 0 0, .int .i64 2]) ∧ Below V.heap.size V w'))
    (HSE : Hid (∀ V A B c d, RowsAt V A M → IntsAt V B l → Calls Tryd.prog 33 #[.slice A M.length c, .slice B l.length d] V fun e w' => e = .returned (.bool false) ∧ ∃ n, w' = V.drewN n)) :
    Calls Tryd.prog 5 #[.slice A n c, .slice B m d, .string s] w fun e w' => e = .returned (.bool true) ∧ Below w.heap.size w w' := by
  have b0 := Below.refl w.heap.size w
  have hm1 : min (s.size : Int) 1001 = ((min s.size 1001 : Nat) : Int) := by omega
  have hm2 : min s.size 1001 ≤ s.size := by omega
  obtain ⟨k, hk⟩ : ∃ k, min s.size 1001 = k := ⟨_, rfl⟩
  rw [hk] at HI hm1 hm2
  clear hk
  go_enter Tryd.func5, Tryd.ntmps5
  go_wp2_with (first
    | (go_at_call 16; refine (HT.out _ b0).mono ?_; rintro e w1 ⟨A1, c1, rfl, ra, b1⟩; replace b0 := b0.trans (b1.mono b0.size))
    | (go_at_call 31; refine (HL.out _ b0).mono ?_; rintro e w2 ⟨A2, c2, rfl, ia, b2⟩; replace b0 := b0.trans (b2.mono b0.size); replace ra := ra.below b2)
    | (go_at_call 32; refine (HI.out _ _ _ _ _ b0 ra ia).mono ?_; rintro e w3 ⟨rfl, b3⟩; replace b0 := b0.trans (b3.mono b0.size); replace ra := ra.below b3; replace ia := ia.below b3)
    | (go_at_call 21; refine (HRM.out _ _ _ ra).mono ?_; rintro e w4 ⟨rfl, rfl⟩)
    | (go_at_call 33; refine (HSE.out _ _ _ _ _ ra ia).mono ?_; rintro e w6 ⟨rfl, n6, rfl⟩; replace b0 := b0.trans (below_drewN n6); replace ra := ra.below (below_drewN n6); replace ia := ia.below (below_drewN n6))
    | (go_at_call 22; refine (HAW.out _ b0).mono ?_; rintro e w5 ⟨rfl, b5⟩; replace b0 := b0.trans (b5.mono b0.size)))
  go_ret
  exact ⟨rfl, b0⟩
theorem ci_s2 (A B : Option Addr) (c d n m : Nat) (s : ByteArray) (w : World) (M : List (List Int)) (l : List Int)
    (HT : Hid (∀ V, Below w.heap.size w V → Calls Tryd.prog 16 #[.slice A n c] V (TabM V M)))
    (HL : Hid (∀ V, Below w.heap.size w V → Calls Tryd.prog 31 #[.slice B m d] V (LstR V l)))
    (HAW : Hid (∀ V, Below w.heap.size w V → Calls Tryd.prog 22 #[] V fun e w' => e = .returned (.bool true) ∧ Below V.heap.size V w'))
    (hs : s.size ≤ 9223372036854775807)
    (HRM : Hid (∀ V A c, RowsAt V A M → Calls Tryd.prog 21 #[.slice A M.length c] V fun e w' => e = .returned (.bool true) ∧ V = w'))
    (HI : Hid (∀ V A B c d, Below w.heap.size w V → RowsAt V A M → IntsAt V B l → Calls Tryd.prog 32 #[.slice A M.length c, .slice B l.length d, .string (s.extract 0 (min s.size 1001))] V fun e w' => e = .returned (.tuple #[.slice none 0 0, .int .i64 2]) ∧ Below V.heap.size V w'))
    (HSE : Hid (∀ V A B c d, RowsAt V A M → IntsAt V B l → Calls Tryd.prog 33 #[.slice A M.length c, .slice B l.length d] V fun e w' => e = .returned (.bool true) ∧ ∃ n, w' = V.drewN n))
    (HWO : Hid (∀ V A c, Calls Tryd.prog 34 #[.slice A M.length c, .string (s.extract 0 (min s.size 1001))] V fun e w' => e = .returned (.bool false) ∧ V = w')) :
    Calls Tryd.prog 5 #[.slice A n c, .slice B m d, .string s] w fun e w' => e = .returned (.bool true) ∧ Below w.heap.size w w' := by
  have b0 := Below.refl w.heap.size w
  have hm1 : min (s.size : Int) 1001 = ((min s.size 1001 : Nat) : Int) := by omega
  have hm2 : min s.size 1001 ≤ s.size := by omega
  obtain ⟨k, hk⟩ : ∃ k, min s.size 1001 = k := ⟨_, rfl⟩
  rw [hk] at HI HWO hm1 hm2
  clear hk
  go_enter Tryd.func5, Tryd.ntmps5
  go_wp2_with (first
    | (go_at_call 16; refine (HT.out _ b0).mono ?_; rintro e w1 ⟨A1, c1, rfl, ra, b1⟩; replace b0 := b0.trans (b1.mono b0.size))
    | (go_at_call 31; refine (HL.out _ b0).mono ?_; rintro e w2 ⟨A2, c2, rfl, ia, b2⟩; replace b0 := b0.trans (b2.mono b0.size); replace ra := ra.below b2)
    | (go_at_call 32; refine (HI.out _ _ _ _ _ b0 ra ia).mono ?_; rintro e w3 ⟨rfl, b3⟩; replace b0 := b0.trans (b3.mono b0.size); replace ra := ra.below b3; replace ia := ia.below b3)
    | (go_at_call 21; refine (HRM.out _ _ _ ra).mono ?_; rintro e w4 ⟨rfl, rfl⟩)
    | (go_at_call 33; refine (HSE.out _ _ _ _ _ ra ia).mono ?_; rintro e w6 ⟨rfl, n6, rfl⟩; replace b0 := b0.trans (below_drewN n6); replace ra := ra.below (below_drewN n6); replace ia := ia.below (below_drewN n6))
    | (go_at_call 34; refine (HWO.out _ _ _).mono ?_; rintro e w7 ⟨rfl, rfl⟩)
    | (go_at_call 22; refine (HAW.out _ b0).mono ?_; rintro e w5 ⟨rfl, b5⟩; replace b0 := b0.trans (b5.mono b0.size)))
  go_ret
  exact ⟨rfl, b0⟩
theorem ci_yes (A B : Option Addr) (c d n m : Nat) (s : ByteArray) (w : World) (M : List (List Int)) (l : List Int) (X : List Int) (q t : Int)
    (HT : Hid (∀ V, Below w.heap.size w V → Calls Tryd.prog 16 #[.slice A n c] V (TabM V M)))
    (HL : Hid (∀ V, Below w.heap.size w V → Calls Tryd.prog 31 #[.slice B m d] V (LstR V l)))
    (HAW : Hid (∀ V, Below w.heap.size w V → Calls Tryd.prog 22 #[] V fun e w' => e = .returned (.bool true) ∧ Below V.heap.size V w'))
    (hs : s.size ≤ 9223372036854775807)
    (HRM : Hid (∀ V A c, RowsAt V A M → Calls Tryd.prog 21 #[.slice A M.length c] V fun e w' => e = .returned (.bool true) ∧ V = w'))
    (HI : Hid (∀ V A B c d, Below w.heap.size w V → RowsAt V A M → IntsAt V B l → Calls Tryd.prog 32 #[.slice A M.length c, .slice B l.length d, .string (s.extract 0 (min s.size 1001))] V (LstER V X 0)))
    (HSE : Hid (∀ V A B c d, RowsAt V A M → IntsAt V B l → Calls Tryd.prog 33 #[.slice A M.length c, .slice B l.length d] V fun e w' => e = .returned (.bool true) ∧ ∃ n, w' = V.drewN n))
    (HWO : Hid (∀ V A c, Calls Tryd.prog 34 #[.slice A M.length c, .string (s.extract 0 (min s.size 1001))] V fun e w' => e = .returned (.bool true) ∧ V = w'))
    (HN : Hid (∀ V B d, IntsAt V B l → Calls Tryd.prog 36 #[.slice B l.length d] V fun e w' => e = .returned (.int .i64 q) ∧ V = w'))
    (HRI : Hid (∀ V A c, RowsAt V A M → Calls Tryd.prog 35 #[.slice A M.length c, .int .i64 q, .string (s.extract 0 (min s.size 1001))] V fun e w' => e = .returned (.int .i64 t) ∧ Below V.heap.size V w'))
    (HLS : Hid (∀ V, Calls Tryd.prog 27 #[.int .i64 t] V (LstR V X)))
    (hX : X.length ≤ 1000000) :
    Calls Tryd.prog 5 #[.slice A n c, .slice B m d, .string s] w fun e w' => e = .returned (.bool true) ∧ Below w.heap.size w w' := by
  have b0 := Below.refl w.heap.size w
  have hm1 : min (s.size : Int) 1001 = ((min s.size 1001 : Nat) : Int) := by omega
  have hm2 : min s.size 1001 ≤ s.size := by omega
  obtain ⟨k, hk⟩ : ∃ k, min s.size 1001 = k := ⟨_, rfl⟩
  rw [hk] at HI HWO HRI hm1 hm2
  clear hk
  go_enter Tryd.func5, Tryd.ntmps5
  go_wp2_with (first
    | (go_at_call 16; refine (HT.out _ b0).mono ?_; rintro e w1 ⟨A1, c1, rfl, ra, b1⟩; replace b0 := b0.trans (b1.mono b0.size))
    | (go_at_call 31; refine (HL.out _ b0).mono ?_; rintro e w2 ⟨A2, c2, rfl, ia, b2⟩; replace b0 := b0.trans (b2.mono b0.size); replace ra := ra.below b2)
    | (go_at_call 32; refine (HI.out _ _ _ _ _ b0 ra ia).mono ?_; rintro e w3 ⟨A3, c3, rfl, i3, b3⟩; replace b0 := b0.trans (b3.mono b0.size); replace ra := ra.below b3; replace ia := ia.below b3)
    | (go_at_call 21; refine (HRM.out _ _ _ ra).mono ?_; rintro e w4 ⟨rfl, rfl⟩)
    | (go_at_call 33; refine (HSE.out _ _ _ _ _ ra ia).mono ?_; rintro e w6 ⟨rfl, n6, rfl⟩; replace b0 := b0.trans (below_drewN n6); replace ra := ra.below (below_drewN n6); replace ia := ia.below (below_drewN n6); replace i3 := i3.below (below_drewN n6))
    | (go_at_call 34; refine (HWO.out _ _ _).mono ?_; rintro e w7 ⟨rfl, rfl⟩)
    | (go_at_call 36; refine (HN.out _ _ _ ia).mono ?_; rintro e w8 ⟨rfl, rfl⟩)
    | (go_at_call 35; refine (HRI.out _ _ _ ra).mono ?_; rintro e w9 ⟨rfl, b9⟩; replace b0 := b0.trans (b9.mono b0.size); replace i3 := i3.below b9)
    | (go_at_call 27; refine (HLS.out _).mono ?_; rintro e w10 ⟨A4, c4, rfl, i4, b10⟩; replace b0 := b0.trans (b10.mono b0.size); replace i3 := i3.below b10)
    | (go_at_call 25; refine (ints_yes _ _ _ _ X _ _ rfl hX i3 i4).mono ?_; rintro e w11 ⟨rfl, n11, rfl⟩; replace b0 := b0.trans (below_drewN n11))
    | (go_at_call 22; refine (HAW.out _ b0).mono ?_; rintro e w5 ⟨rfl, b5⟩; replace b0 := b0.trans (b5.mono b0.size)))
  go_ret
  exact ⟨rfl, b0⟩
theorem extract_size (s : ByteArray) (k : Nat) : (s.extract 0 k).size ≤ k := by
  rw [ByteArray.size_extract]; omega
theorem clockImages_any (A : Option Addr) (c : Nat) (L : List (List Int)) (B : Option Addr) (d : Nat) (es : List Int) (s : ByteArray) (w : World) (ht : TabW w) (hx : L.length ≤ c) (hc : c ≤ maxLen) (ha : RowsIn w A L)
    (hy : es.length ≤ d) (hd : d ≤ maxLen) (hb : IntsAt w B es) (hs : s.size ≤ 9223372036854775807) :
    Calls Tryd.prog 5 #[.slice A L.length c, .slice B es.length d, .string s] w fun e w' => e = .returned (.bool true) ∧ Below w.heap.size w w' := by
  obtain ⟨M, hl, hT⟩ := tabM_any A c L w hx hc ha
  have HT := Lib.hid hT
  have HAW := Lib.hid (fun (V : World) (hV : Below w.heap.size w V) => awake_any V (ht.below hV ht.lt))
  have HL : Hid (∀ V, Below w.heap.size w V → Calls Tryd.prog 31 #[.slice B es.length d] V (LstR V (es.take 11))) := Lib.hid (fun V hV => (list_copy_any B d es V hy hd (hb.below hV)).mono (fun e w' ⟨v, k, he, ho, hbl⟩ => by
    obtain ⟨A1, c1, rfl, -, -, i⟩ := own_intsI ho
    exact ⟨A1, c1, he, i, hbl⟩))
  have hll : (es.take 11).length ≤ 1000 := by rw [List.length_take]; omega
  have hss : (s.extract 0 (min s.size 1001)).size ≤ 1000000 := by have := extract_size s (min s.size 1001); omega
  have HRM := Lib.hid (fun (V : World) A c ha => refMachine_any A c M V hl ha)
  cases hk : okM M
  · rw [hk] at HRM
    exact ci_no A B c d L.length es.length s w M (es.take 11) HT HL HAW hs HRM (Lib.hid (fun V A B c d _ ha _ => Image_no A B c d _ M _ V hk ha))
  · rw [hk] at HRM
    have h := okM_iff.1 hk
    have HSE := Lib.hid (fun (V : World) A B c d ha hb => refSet_any A B c d M (es.take 11) V h ha hb hll)
    cases ho : okS (nS M) (es.take 11)
    · rw [ho] at HSE
      exact ci_s1 A B c d L.length es.length s w M (es.take 11) HT HL HAW hs HRM (Lib.hid (fun V A B c d _ ha hb => Image_bad1 A B c d M _ _ V h hll ha hb ho)) HSE
    · rw [ho] at HSE
      have HWO := Lib.hid (fun (V : World) A c => refWord_any A c M.length (s.extract 0 (min s.size 1001)) V hss (by have := h.k4; omega))
      cases hw : okB M.length (s.extract 0 (min s.size 1001))
      · rw [hw] at HWO
        exact ci_s2 A B c d L.length es.length s w M (es.take 11) HT HL HAW hs HRM (Lib.hid (fun V A B c d _ ha hb => Image_bad2 A B c d M _ _ V h hll ha hb ho hw hss)) HSE HWO
      · rw [hw] at HWO
        have hq := setL_set ho
        have ht9 := set512 h.n9 (imP_set h.isM hq (okB_at hw).2)
        exact ci_yes A B c d L.length es.length s w M (es.take 11) (lsI (imP (tabN M) (setL (es.take 11)) (s.extract 0 (min s.size 1001)) (s.extract 0 (min s.size 1001)).size)) (setL (es.take 11) : Nat) (imP (tabN M) (setL (es.take 11)) (s.extract 0 (min s.size 1001)) (s.extract 0 (min s.size 1001)).size : Nat) HT HL HAW hs HRM
          (Lib.hid (fun V A B c d hV ha hb => (Image_yes A B c d M _ _ V h hll ha hb ho hw hss (ht.below hV ht.lt)).mono (fun e w' h => h.lst))) HSE HWO
          (Lib.hid (fun V B d hb => refNumber_any (nS M) B d _ V h.n9 ho hb hll))
          (Lib.hid (fun V A c ha => refImage_any A c M _ _ V h ha hq hw))
          (Lib.hid (fun V => (refList_any _ V ht9).mono (fun e w' h => h.lst)))
          (by rw [lsI_len]; have := sz_le (imP (tabN M) (setL (es.take 11)) (s.extract 0 (min s.size 1001)) (s.extract 0 (min s.size 1001)).size); omega)
end Go.Proofs.YtignbpipdfjkeaaDoor
