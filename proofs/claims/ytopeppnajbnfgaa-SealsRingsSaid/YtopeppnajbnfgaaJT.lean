/- The reference's test of a ring. -/
import Derived.Test.YtopeppnajbnfgaaJS
namespace Go.Proofs.Ytopeppnajbnfgaa
open Go.RowKit
set_option maxHeartbeats 1000000
set_option maxRecDepth 100000
theorem mov_snoc {x : List Int} {i : Nat} (h : i + 1 < x.length) : (movL x).take (i + 1) = (movL x).take i ++ [geti x (i + 1) - geti x 0] := by
  have hl : i < (movL x).length := by rw [movL_len]; omega
  rw [List.take_succ_eq_append_getElem hl, ← movL_at h, geti_eq hl]
theorem cell_up {w w' : World} {b o : Nat} {v : Value} (h : Below w.heap.size w w') (hb : b < w.heap.size) (hc : w.cell? ⟨b, o, none⟩ = some v) : w'.cell? ⟨b, o, none⟩ = some v := (h.cell (p := ⟨b, o, none⟩) hb).trans hc
theorem FairRing_any (s : ByteArray) (A : Option Addr) (c : Nat) (xs : List Int) (w : World) (hs : s.size ≤ 24) (ho : ∀ i, i < s.size → okC s i) (hev : evV s = true) (hcut : cutV 0 s.size xs = true) (he : xs.length % 2 = 0) (hx : IntsAt w A xs) :
    Calls Try.prog 36 #[.string s, .slice A xs.length c] w fun e w' => e = .returned (.bool (fairV s xs)) ∧ Below w.heap.size w w' := by
  have hxl := cutV_len (first := 0) (by omega) hcut
  have hin := cutV_in (first := 0) (by omega) hcut
  rcases Nat.eq_zero_or_pos xs.length with h0 | h0
  · have hnil : xs = [] := List.eq_nil_of_length_eq_zero h0
    subst hnil
    have HV := Lib.hid (show fairV s [] = ((s.size : Int) == 0) by
      rw [ring_none ho hev, Bool.eq_iff_iff, decide_eq_true_iff, beq_iff_eq]; omega)
    generalize fairV s [] = V at *
    go_enter Try.func36, Try.ntmps36
    go_wp2
    go_ret
    exact ⟨ret_bool HV.out.symm, Below.refl _ _⟩
  · have hrot := rot_of s (k := (geti xs 0).toNat) (by have := hin 0 h0; omega)
    have hu : (s.extract (geti xs 0).toNat s.size ++ s.extract 0 (geti xs 0).toNat).size = s.size := hrot.size
    have huo : ∀ i, i < (s.extract (geti xs 0).toNat s.size ++ s.extract 0 (geti xs 0).toNat).size → okC (s.extract (geti xs 0).toNat s.size ++ s.extract 0 (geti xs 0).toNat) i := okC_app (okC_ext ho (Nat.le_refl _)) (okC_ext ho (by have := hin 0 h0; omega))
    have HF : Hid (∀ (B : Option Addr) (d : Nat) w, IntsAt w B (movL xs) → Calls Try.prog 22 #[.string (s.extract (geti xs 0).toNat s.size ++ s.extract 0 (geti xs 0).toNat), .slice B (movL xs).length d] w fun e w' => e = .returned (.bool (fairV s xs)) ∧ Below w.heap.size w w') := Lib.hid fun B d w hi => by
      have := RefFair_any _ B d (movL xs) w (by rw [hu]; exact hs) huo (by rw [hu]; exact mov_cut hcut) hi
      rw [ring_ref hs hev h0 hcut hrot he] at this
      exact this
    obtain ⟨b, o, rfl, hb, hc⟩ := hx h0
    have c0 := hc 0 h0
    rw [Nat.add_zero] at c0
    have HC := Lib.hid hc
    have HIN := Lib.hid hin
    have HML := Lib.hid (movL_len xs)
    obtain ⟨a, ha⟩ : ∃ a : Nat, geti xs 0 = a := ⟨(geti xs 0).toNat, by have := hin 0 h0; omega⟩
    have hal : a < s.size := by have := hin 0 h0; omega
    have HSN := Lib.hid (fun i (h : i + 1 < xs.length) => mov_snoc h)
    rw [ha, Int.toNat_natCast] at HF
    rw [ha] at c0 HSN
    have z1 : (s.extract a s.size).size = s.size - a := by rw [ByteArray.size_extract]; omega
    have z2 : (s.extract 0 a).size = a := by rw [ByteArray.size_extract]; omega
    have ha1 : (0 : Int) ≤ (a : Int) ∧ (a : Int) ≤ s.size := by omega
    have hal2 : a ≤ s.size := by omega
    obtain ⟨j0, ji, jz0, jz1, jz2⟩ := info_parts info3
    generalize fairV s xs = V at *
    clear hrot hu huo hc hin ha hx he hcut
    generalize hM : movL xs = M at *
    clear hM
    generalize hL : xs.length = L at *
    have HL := Lib.hid hL
    clear hL
    have g0 : ((L : Int) == 0) = false := beq_eq_false_iff_ne.2 (by omega)
    go_enter Try.func36, Try.ntmps36
    go_wp2
    go_loopw [6, 7] (fun v i wr => ∃ k : Nat, i = .int .i64 ((k : Int) + 1) ∧ k + 1 ≤ L ∧ wr.ownsRow w.heap.size 3 1 v k (iv (M.take k)) ∧ Below w.heap.size w wr) (fun _ i _ => 100 - (intOf i).toNat)
    case atStart => exact ⟨0, rfl, by omega, ⟨rfl, .inl ⟨rfl, rfl⟩⟩, Below.refl _ _⟩
    case round =>
      obtain ⟨k, rfl, hk, own, b4⟩ := hrel
      by_cases h : k + 1 < L
      · have g1 : decide ((k : Int) + 1 < L) = true := decide_eq_true (by omega)
        have c1 : wr.cell? ⟨b, o + (k + 1), none⟩ = some (.int .i64 (geti xs (k + 1))) := cell_up b4 hb (HC.out (k + 1) h)
        have hq := HIN.out (k + 1) h
        have HS1 := Lib.hid (HSN.out k h)
        generalize geti xs (k + 1) = q at *
        have hbs := b4.size
        have hnr : Row (wr.alloc (.cells #[.int .i64 (q - (a : Int))] 3)) wr.heap.size 3 [.int .i64 (q - (a : Int))] := row_new rfl
        go_wp2_with (at_builtin; refine wpList_append_own_at _ rfl (.tmp 23) (.tmp 30) 23 rfl w.heap.size 3 j0 (.int .i64 0) 1 8 Try.underlying23 ji jz0 jz1 jz2 rfl (by decide) _ _ _ rfl (own.alloc _) ⟨wr.heap.size, 0, none⟩ 1 1 [.int .i64 (q - (a : Int))] rfl rfl (news_one hnr) (by simp [Value.oneCell']) (by unfold maxLen; omega) (by omega) (by simp; omega) ?_; intro v2 w2 o2 hg2 _ _)
        have b2 := app1' own hbs hg2
        go_roundw
        case rel => exact ⟨k + 1, by first | rfl | (exact congrArg (Value.int .i64) (by omega)), by omega, by rw [HS1.out, iv_snoc]; exact o2, b4.trans b2⟩
        case measure => simp [intOf]; omega
      · have g1 : decide ((k : Int) + 1 < L) = false := decide_eq_false (by omega)
        rw [List.take_of_length_le (by rw [HML.out]; omega)] at own
        obtain ⟨Aq, cq, rfl, hkM, hcq, iq⟩ := own_intsI own
        have HKM := Lib.hid hkM
        clear own hkM
        go_wp2
        go_region_held_law (fun w' => Hid (Below wr.heap.size wr w')) (first | assumption | exact Lib.hid (Below.refl _ _) | exact Lib.hid (Below.refl _ _).drew | exact Lib.hid b5) ((first
          | (go_at_call 22; refine (HF.out _ _ _ (iq.below (Below.refl _ _).drew)).mono ?_; rintro e w5 ⟨rfl, b5⟩; replace b5 := (Below.refl _ wr).drew.trans b5)))
        go_wp2
        go_ret
        exact ⟨rfl, b4.trans (b5.mono b4.size)⟩
end Go.Proofs.Ytopeppnajbnfgaa
