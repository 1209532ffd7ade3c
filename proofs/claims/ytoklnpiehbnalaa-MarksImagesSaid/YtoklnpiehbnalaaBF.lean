/- Extend. -/
import Derived.Test.YtoklnpiehbnalaaBB
import Derived.Test.YtoklnpiehbnalaaAQ
namespace Go.Proofs.Ytoklnpiehbnalaa
open Go.RowKit Go.PlainAid
set_option maxHeartbeats 2000000
set_option maxRecDepth 100000
/-- The first letter that may be added. -/
def exF (x : List Nat) (k : Nat) : Option Nat := (List.range k).find? fun c => free (x ++ [c])
theorem exF_hit {x : List Nat} {k c : Nat} (hc : c < k) (h : free (x ++ [c]) = true) (hb : ∀ d, d < c → free (x ++ [d]) = false) : exF x k = some c := find_range hc h hb
theorem exF_no {x : List Nat} {k : Nat} (h : ∀ d, d < k → free (x ++ [d]) = false) : exF x k = none := find_range_none h
def exV (x : List Nat) (o : Option Nat) : Value := match o with
  | some c => .tuple #[.string (wS (x ++ [c])), .int .i64 0]
  | none => .tuple #[.string ⟨#[]⟩, .int .i64 6]
def exRV (x : List Nat) (o : Option Nat) : Value := match o with
  | some c => .tuple #[.string (wS (x ++ [c])), .bool true]
  | none => .tuple #[.string ⟨#[]⟩, .bool false]
theorem okW_snoc {x : List Nat} {c : Nat} (h : okW x) (hc : c < 4) : okW (x ++ [c]) := okW_app h (fun b hb => by
  have : b = c := by simpa using hb
  omega)
theorem Extend_yes (x : List Nat) (k : Nat) (w : World) (hx : okW x) (hk1 : 1 ≤ k) (hk : k ≤ 4) (hl : x.length < 120) :
    Calls Try.prog 33 #[.string (wS x), .int .i64 k] w fun e w' => e = .returned (exV x (exF x k)) ∧ Below w.heap.size w w' := by
  have HW := Lib.hid (fun V => isWord_any (wS x) V (by rw [wS_len]; omega))
  rw [okB_wS hx (by omega)] at HW
  have HEN := Lib.hid (fun c (hc : c < 4) => enc_one hc)
  have HAD : Hid (∀ c, c < k → ∀ w, (Op.stringOp .add (wS x) (wS [c])).run Try.prog w = .ok (.string (wS (x ++ [c]))) w) := Lib.hid (fun c hc w => by
    rw [← wS_app]
    exact run_string_add_sum w _ _ (by rw [wS_len, wS_len]; simp; omega))
  have HSF := Lib.hid (fun c V (hc : c < k) => isSquareFree_any (x ++ [c]) V (okW_snoc hx (by omega)) (by simp; omega))
  have HHIT : Hid (∀ c, c < k → free (x ++ [c]) = true → (∀ d, d < c → free (x ++ [d]) = false) → exV x (exF x k) = .tuple #[.string (wS (x ++ [c])), .int .i64 0]) := Lib.hid (fun c h1 h2 h3 => by rw [exF_hit h1 h2 h3]; rfl)
  have HNO : Hid ((∀ d, d < k → free (x ++ [d]) = false) → exV x (exF x k) = .tuple #[.string ⟨#[]⟩, .int .i64 6]) := Lib.hid (fun h => by rw [exF_no h]; rfl)
  have H0 : Hid (∀ d, d < 0 → free (x ++ [d]) = false) := Lib.hid (fun d h => absurd h (by omega))
  have g1 : decide ((k : Int) < 1) = false := decide_eq_false (by omega)
  have g2 : decide ((4 : Int) < (k : Int)) = false := decide_eq_false (by omega)
  have g3 : (((wS x).size : Int) == 120) = false := by rw [beq_eq_false_iff_ne, wS_len]; omega
  have hsz : (wS x).size ≤ 200 := by rw [wS_len]; omega
  have b0 := Below.refl w.heap.size w
  generalize exV x (exF x k) = R at *
  generalize hs : wS x = s at *
  clear hs hx hl
  go_enter Try.func33, Try.ntmps33
  go_wp2_with (go_at_call 58; (with_reducible refine (HW.out _).mono ?_); rintro e w2 ⟨rfl, b2⟩; replace b0 := b0.trans (b2.mono b0.size))
  have b1 : Below w.heap.size w (w2.iter (abc.extract 0 k) 0) := b0.trans (((Below.refl _ w2).alloc (Nat.le_refl _) _).mono b0.size)
  have i0 : (w2.iter (abc.extract 0 k) 0).heap[w2.heap.size]? = some (.stringIter (abc.extract 0 k) 0) := World.iter_heap w2 _ 0
  have hw2 := b0.size
  clear b0 b2 HW
  change Code.wp _ _ _ _ (w2.iter (abc.extract 0 k) 0)
  generalize w2.iter (abc.extract 0 k) 0 = W1 at *
  go_loopg [] k (fun d wr => ∃ c : Nat, d = k - c ∧ c ≤ k ∧ wr.heap[w2.heap.size]? = some (.stringIter (abc.extract 0 k) c) ∧ Below w.heap.size w wr ∧ Hid (∀ d, d < c → free (x ++ [d]) = false))
  case atStart => exact ⟨0, rfl, by omega, i0, b1, H0⟩
  case round =>
    clear i0 b1 H0
    obtain ⟨c, hd, hc, hi, b1, HQ⟩ := hrel
    by_cases hlt : c < k
    · have hnx := fun ty => abc_next (ty := ty) hk hi hlt
      have henc := HEN.out c (by omega)
      have hadd := HAD.out c hlt
      have HSF1 := Lib.hid (fun V => HSF.out c V hlt)
      have HH1 := Lib.hid (HHIT.out c hlt)
      have hIlt : w2.heap.size < wr.heap.size := (Array.getElem?_eq_some_iff.1 hi).1
      have hi2 : (wr.putObj w2.heap.size (.stringIter (abc.extract 0 k) (c + 1))).heap[w2.heap.size]? = some (.stringIter (abc.extract 0 k) (c + 1)) := World.putObj_heap_same hIlt
      have b2 : Below w.heap.size w (wr.putObj w2.heap.size (.stringIter (abc.extract 0 k) (c + 1))) := b1.trans ⟨rfl, rfl, rfl, by simp, fun j hj => World.putObj_heap_other (by omega)⟩
      clear hi b1
      generalize hV : wr.putObj w2.heap.size (.stringIter (abc.extract 0 k) (c + 1)) = V at *
      clear hV
      generalize wS (x ++ [c]) = u at *
      generalize wS [c] = t at *
      clear HEN HAD HSF HHIT HNO
      cases hb : free (x ++ [c])
      · rw [hb] at HSF1
        have HQ2 : Hid (∀ d, d < c + 1 → free (x ++ [d]) = false) := Lib.hid (fun d h => by
          rcases Nat.lt_or_ge d c with h1 | h1
          · exact HQ.out d h1
          · rw [show d = c by omega]; exact hb)
        clear hb HH1 HQ
        go_wp2_with (go_at_call 64; (with_reducible refine (HSF1.out _).mono ?_); rintro e w3 ⟨rfl, m, rfl⟩)
        go_roundg (k - (c + 1))
        case measure => omega
        case rel => exact ⟨c + 1, rfl, by omega, hi2, b2.trans (below_drewN m), HQ2⟩
      · rw [hb] at HSF1
        have HR := Lib.hid (HH1.out hb HQ.out)
        clear hb HH1 HQ
        go_wp2_with (go_at_call 64; (with_reducible refine (HSF1.out _).mono ?_); rintro e w3 ⟨rfl, m, rfl⟩)
        exact bodyPost_ret (v := .tuple #[.string u, .int .i64 0]) (by simp [results, Try.results33, go_sem]) rfl ⟨by rw [HR.out], b2.trans (below_drewN m)⟩
    · obtain rfl : c = k := by omega
      have hnx := fun ty => abc_end (ty := ty) hk hi
      have HR := Lib.hid (HNO.out HQ.out)
      clear HEN HAD HSF HHIT HNO HQ
      go_wp2
      exact bodyPost_ret (v := .tuple #[.string ⟨#[]⟩, .int .i64 6]) (by simp [results, Try.results33, go_sem]) rfl ⟨by rw [HR.out], b1⟩
theorem Extend_no (s : ByteArray) (k : Int) (w : World) (hs : s.size ≤ 9223372036854775807) (h : okB s = false ∨ k < 1 ∨ 4 < k ∨ s.size = 120) :
    Calls Try.prog 33 #[.string s, .int .i64 k] w fun e w' => e = .returned (.tuple #[.string ⟨#[]⟩, .int .i64 2]) ∧ Below w.heap.size w w' := by
  have HW := Lib.hid (fun V => isWord_any s V hs)
  have b0 := Below.refl w.heap.size w
  cases hb : okB s
  · rw [hb] at HW
    clear hb h
    go_enter Try.func33, Try.ntmps33
    go_wp2_with (go_at_call 58; (with_reducible refine (HW.out _).mono ?_); rintro e w2 ⟨rfl, b2⟩; replace b0 := b0.trans (b2.mono b0.size))
    exact bodyPost_ret (v := .tuple #[.string ⟨#[]⟩, .int .i64 2]) (by simp [results, Try.results33, go_sem]) rfl ⟨rfl, b0⟩
  · rw [hb] at HW h
    by_cases h1 : k < 1
    · have g1 : decide (k < 1) = true := decide_eq_true h1
      clear hb h h1
      go_enter Try.func33, Try.ntmps33
      go_wp2_with (go_at_call 58; (with_reducible refine (HW.out _).mono ?_); rintro e w2 ⟨rfl, b2⟩; replace b0 := b0.trans (b2.mono b0.size))
      exact bodyPost_ret (v := .tuple #[.string ⟨#[]⟩, .int .i64 2]) (by simp [results, Try.results33, go_sem]) rfl ⟨rfl, b0⟩
    · have g1 : decide (k < 1) = false := decide_eq_false h1
      by_cases h2 : 4 < k
      · have g2 : decide (4 < k) = true := decide_eq_true h2
        clear hb h h1 h2
        go_enter Try.func33, Try.ntmps33
        go_wp2_with (go_at_call 58; (with_reducible refine (HW.out _).mono ?_); rintro e w2 ⟨rfl, b2⟩; replace b0 := b0.trans (b2.mono b0.size))
        exact bodyPost_ret (v := .tuple #[.string ⟨#[]⟩, .int .i64 2]) (by simp [results, Try.results33, go_sem]) rfl ⟨rfl, b0⟩
      · have g2 : decide (4 < k) = false := decide_eq_false h2
        have g3 : ((s.size : Int) == 120) = true := by
          rw [beq_iff_eq]
          rcases h with h | h | h | h
          · cases h
          · omega
          · omega
          · omega
        clear hb h h1 h2
        go_enter Try.func33, Try.ntmps33
        go_wp2_with (go_at_call 58; (with_reducible refine (HW.out _).mono ?_); rintro e w2 ⟨rfl, b2⟩; replace b0 := b0.trans (b2.mono b0.size))
        exact bodyPost_ret (v := .tuple #[.string ⟨#[]⟩, .int .i64 2]) (by simp [results, Try.results33, go_sem]) rfl ⟨rfl, b0⟩
theorem conv_one {W : World} {g c : Nat} (h : Row W g 5 [.int .u8 (97 + (c : Int))]) : (convert 71 9 (.slice (some ⟨g, 0, none⟩) 1 1)).run Try.prog W = .ok (.string (wS [c])) W :=
  run_convert_bytes_arg (P := Try.prog) W 71 5 Try.underlying71 Try.underlying5 g 0 1 1 (wI [c]) rfl (fun i hi => by
    obtain rfl : i = 0 := by omega
    rw [Nat.zero_add, h.cell]; rfl) 9 Try.underlying9
theorem refExtend_any (x : List Nat) (k : Nat) (w : World) (hx : okW x) (hk : k ≤ 4) (hl : x.length ≤ 1000) :
    Calls Try.prog 34 #[.string (wS x), .int .i64 k] w fun e w' => e = .returned (exRV x (exF x k)) ∧ Below w.heap.size w w' := by
  have HAD : Hid (∀ c, c < k → ∀ w, (Op.stringOp .add (wS x) (wS [c])).run Try.prog w = .ok (.string (wS (x ++ [c]))) w) := Lib.hid (fun c hc w => by
    rw [← wS_app]
    exact run_string_add_sum w _ _ (by rw [wS_len, wS_len]; simp; omega))
  have HSF := Lib.hid (fun c V (hc : c < k) => refFree_any (x ++ [c]) V (okW_snoc hx (by omega)) (by simp; omega))
  have HHIT : Hid (∀ c, c < k → free (x ++ [c]) = true → (∀ d, d < c → free (x ++ [d]) = false) → exRV x (exF x k) = .tuple #[.string (wS (x ++ [c])), .bool true]) := Lib.hid (fun c h1 h2 h3 => by rw [exF_hit h1 h2 h3]; rfl)
  have HNO : Hid ((∀ d, d < k → free (x ++ [d]) = false) → exRV x (exF x k) = .tuple #[.string ⟨#[]⟩, .bool false]) := Lib.hid (fun h => by rw [exF_no h]; rfl)
  have H0 : Hid (∀ d, d < 0 → free (x ++ [d]) = false) := Lib.hid (fun d h => absurd h (by omega))
  have hsz : (wS x).size ≤ 2000 := by rw [wS_len]; omega
  have b0 := Below.refl w.heap.size w
  generalize exRV x (exF x k) = R at *
  generalize hs : wS x = s at *
  clear hs hx hl
  go_enter Try.func34, Try.ntmps34
  go_wp2
  go_loopw [6] (fun i wr => ∃ c : Nat, i = .int .i64 c ∧ c ≤ k ∧ Below w.heap.size w wr ∧ Hid (∀ d, d < c → free (x ++ [d]) = false)) (fun i _ => k - (intOf i).toNat)
  case atStart => exact ⟨0, rfl, by omega, b0, H0⟩
  case round =>
    clear b0 H0
    obtain ⟨c, rfl, hc, b0, HQ⟩ := hrel
    by_cases hlt : c < k
    · have g1 : decide (c < k) = true := decide_eq_true hlt
      have hadd := HAD.out c hlt
      have HSF1 := Lib.hid (fun V => HSF.out c V hlt)
      have HH1 := Lib.hid (HHIT.out c hlt)
      have hw1 : IntKind.u8.wrap (97 + (c : Int)) = 97 + c := by simp [IntKind.wrap, IntKind.bits, IntKind.signed]; omega
      have hw2 : (97 + (c : Int)) % 256 = 97 + c := by omega
      have hcv : (convert 71 9 (.slice (some ⟨wr.heap.size, 0, none⟩) 1 1)).run Try.prog (wr.alloc (.cells #[.int .u8 (97 + (c : Int))] 5)) = .ok (.string (wS [c])) (wr.alloc (.cells #[.int .u8 (97 + (c : Int))] 5)) := conv_one (row_new rfl)
      have b1 := b0.alloc b0.size (.cells #[.int .u8 (97 + (c : Int))] 5)
      generalize wS (x ++ [c]) = u at *
      generalize wS [c] = t at *
      clear HAD HSF HHIT HNO
      cases hb : free (x ++ [c])
      · rw [hb] at HSF1
        have HQ2 : Hid (∀ d, d < c + 1 → free (x ++ [d]) = false) := Lib.hid (fun d h => by
          rcases Nat.lt_or_ge d c with h1 | h1
          · exact HQ.out d h1
          · rw [show d = c by omega]; exact hb)
        clear hb HH1 HQ
        go_wp2_with (go_at_call 53; (with_reducible refine (HSF1.out _).mono ?_); rintro e w3 ⟨rfl, b3⟩)
        go_roundw
        case rel => exact ⟨c + 1, by go_num, by omega, b1.trans (b3.mono b1.size), HQ2⟩
        case measure => simp [intOf]; omega
      · rw [hb] at HSF1
        have HR := Lib.hid (HH1.out hb HQ.out)
        clear hb HH1 HQ
        go_wp2_with (go_at_call 53; (with_reducible refine (HSF1.out _).mono ?_); rintro e w3 ⟨rfl, b3⟩)
        exact bodyPost_ret (v := .tuple #[.string u, .bool true]) (by simp [results, Try.results34, go_sem]) rfl ⟨by rw [HR.out], b1.trans (b3.mono b1.size)⟩
    · obtain rfl : c = k := by omega
      have g1 : decide (c < c) = false := decide_eq_false (by omega)
      have HR := Lib.hid (HNO.out HQ.out)
      clear HAD HSF HHIT HNO HQ
      go_wp2
      exact bodyPost_ret (v := .tuple #[.string ⟨#[]⟩, .bool false]) (by simp [results, Try.results34, go_sem]) rfl ⟨by rw [HR.out], b0⟩
end Go.Proofs.Ytoklnpiehbnalaa
