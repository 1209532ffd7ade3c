/- Are cuts fair; are they cuts: the code. -/
import Derived.Test.YtopeppnajbnfgaaFH
namespace Go.Proofs.Ytopeppnajbnfgaa
open Go.RowKit
set_option maxHeartbeats 1000000
set_option maxRecDepth 100000
def fairV (s : ByteArray) (xs : List Int) : Bool := decide (apL s xs = halfL (sumL s s.size))
theorem isFair_any (s : ByteArray) (A : Option Addr) (c : Nat) (xs : List Int) (w : World) (hs : s.size ≤ 24) (hl : xs.length ≤ 100) (hc : xs.length ≤ c) (hx : IntsAt w A xs) (hin : InC s xs) :
    Calls Try.prog 45 #[.agg (iv (tal s)).toArray, .slice A xs.length c] w fun e w' => e = .returned (.bool (fairV s xs)) ∧ Below w.heap.size w w' := by
  have r0 : Row (w.alloc (.cells (iv (tal s)).toArray 54)) w.heap.size 54 (iv (tal s)) := row_new rfl
  have b0 : Below w.heap.size w (w.alloc (.cells (iv (tal s)).toArray 54)) := (Below.refl _ w).alloc (Nat.le_refl _) _
  have HA := Lib.hid (fun w' (h : IntsAt w' A xs) => apart_any s A c xs w' hs hl hc h hin)
  have HS := Lib.hid (fun w => all_any s w hs)
  have HH := Lib.hid (fun w => half_any (sumL s s.size) w (sumL_sm s (by omega)))
  have hi' : (Try.prog.info? 54).map (·.size) = some (iv (tal s)).length := by rw [iv_len]; unfold tal; rw [talL_len]; exact info54
  have hap : Sm (apP s xs (List.range ((xs.length + 1) / 2))) := apP_sm hs hin (fun k hk => by have := List.mem_range.1 hk; omega) (by rw [List.length_range]; omega)
  have E51 := eq51 (x := apL s xs) (y := halfL (sumL s s.size)) hap.1 rfl
  have HX := Lib.hid (hx.below b0)
  clear hx hap
  go_enter Try.func45, Try.ntmps45
  go_wp2
  generalize World.alloc w _ = W at *
  refine wp_region_class_all (C := fun w' => ∃ u : After _, w' = u.v) (by kernel_rfl) (by kernel_rfl) (isAfter_start _) ?_
  try simp only [Act.put]
  repeat (first | ((with_reducible refine (?_ : wpQuiet _ _ _ _ (Oper.mk (some 5) _ _ _ _ _ :: _) _); go_big_quiet_want); refine quiet_load_row 54 (.tmp 2) rfl w.heap.size rfl 54 (iv (tal s)) _ (fun _ hc => after_row r0 hc) Try.underlying54 rfl hi' ?_; simp only [Act.put, List.setIfInBounds_toArray, List.set_cons_zero, List.set_cons_succ]; go_big_quiet_on) | ((with_reducible refine (?_ : wpQuiet _ _ _ _ (Oper.mk (some 8) _ _ _ _ _ :: _) _); go_big_quiet_want); refine quiet_load_row 54 (.tmp 2) rfl w.heap.size rfl 54 (iv (tal s)) _ (fun _ hc => after_row r0 hc) Try.underlying54 rfl hi' ?_; simp only [Act.put, List.setIfInBounds_toArray, List.set_cons_zero, List.set_cons_succ]; go_big_quiet_on) | go_big_quiet_step ((first | (rename_i u8; with_reducible refine (HA.out _ (HX.out.below u8.h)).mono ?_; rintro e w8 ⟨rfl, b8⟩; exact ⟨rfl, After.done _ b8⟩) | (with_reducible refine (HS.out _).mono ?_; rintro e w8 ⟨rfl, b8⟩; exact ⟨rfl, After.done _ b8⟩) | (with_reducible refine (HH.out _).mono ?_; rintro e w8 ⟨rfl, b8⟩; exact ⟨rfl, After.done _ b8⟩))))
  refine wpQuiet_nil ?_
  rintro _ ⟨ua, rfl⟩
  go_wp2
  go_ret
  exact ⟨rfl, b0.trans (ua.h.mono b0.size)⟩
/-- From where on the next cut may lie. -/
def fromC (first : Int) (xs : List Int) (i : Nat) : Int := if i = 0 then first else geti xs (i - 1) + 1
def okCut (first n : Int) (xs : List Int) (i : Nat) : Prop := fromC first xs i ≤ geti xs i ∧ geti xs i < n
instance (first n : Int) (xs : List Int) (i : Nat) : Decidable (okCut first n xs i) := by unfold okCut; infer_instance
def cutV (first n : Int) (xs : List Int) : Bool := decide (∀ i, i < xs.length → okCut first n xs i)
theorem cutV_no {first n : Int} {xs : List Int} {i : Nat} (hi : i < xs.length) (h : ¬ okCut first n xs i) : cutV first n xs = false := decide_eq_false fun hh => h (hh i hi)
theorem areCuts_any (A : Option Addr) (c : Nat) (xs : List Int) (first : Int) (n : Nat) (w : World) (hl : xs.length ≤ 1000000) (hn : n ≤ 1000) (hf : 0 ≤ first ∧ first ≤ 1) (hx : IntsAt w A xs) :
    Calls Try.prog 44 #[.slice A xs.length c, .int .i64 first, .int .i64 n] w fun e w' => e = .returned (.bool (cutV first n xs)) ∧ ∃ k, w' = w.drewN k := by
  go_enter Try.func44, Try.ntmps44
  go_wp2
  go_loopw [1, 11] (fun f i wr => ∃ k q : Nat, k ≤ xs.length ∧ i = .int .i64 k ∧ f = .int .i64 (fromC first xs k) ∧ wr = w.drewN q ∧ ∀ j, j < k → okCut first n xs j) (fun _ i _ => xs.length - (intOf i).toNat)
  case atStart => exact ⟨0, 0, by omega, rfl, rfl, rfl, fun j hj => absurd hj (by omega)⟩
  case round =>
    obtain ⟨k, q, hk, rfl, rfl, rfl, hok⟩ := hrel
    have HOK := Lib.hid hok
    clear hok
    by_cases hlt : k < xs.length
    · obtain ⟨b, o, rfl, hb, hc⟩ := hx (by omega)
      have c0 := hc k hlt
      have HN := Lib.hid (fun h => cutV_no (first := first) (n := n) hlt h)
      have HY := Lib.hid (show okCut first n xs k = (fromC first xs k ≤ geti xs k ∧ geti xs k < n) from rfl)
      have HF := Lib.hid (show fromC first xs (k + 1) = geti xs k + 1 by unfold fromC; rw [if_neg (by omega), Nat.add_sub_cancel])
      have h0 : -1 ≤ fromC first xs k ∧ fromC first xs k ≤ 1000 := by
        unfold fromC
        split
        · omega
        · have := (HOK.out (k - 1) (by omega)).2
          have h2 : ∀ j, j < k → 0 ≤ geti xs j := by
            intro j
            induction j with
            | zero => intro hj; have := (HOK.out 0 hj).1; unfold fromC at this; rw [if_pos rfl] at this; omega
            | succ j ih =>
              intro hj
              have h3 := (HOK.out (j + 1) hj).1
              unfold fromC at h3
              rw [if_neg (by omega), Nat.add_sub_cancel] at h3
              have := ih (by omega); omega
          have := h2 (k - 1) (by omega)
          omega
      clear hc hx
      generalize geti xs k = x at *
      generalize fromC first xs k = f at *
      cases g1 : decide (x < f)
      · cases g2 : decide ((n : Int) ≤ x)
        · have h1 := of_decide_eq_false g1
          have h2 := of_decide_eq_false g2
          go_wp2
          go_roundw
          case rel =>
            refine ⟨k + 1, q, by omega, by go_num, by rw [HF.out], rfl, fun j hj => ?_⟩
            by_cases e : j = k
            · subst e; rw [HY.out]; omega
            · exact HOK.out j (by omega)
          case measure => simp [intOf]; omega
        · have h2 := of_decide_eq_true g2
          have HB := Lib.hid (HN.out (by rw [HY.out]; omega))
          go_wp2
          go_ret
          exact ⟨ret_bool HB.out.symm, _, rfl⟩
      · have h1 := of_decide_eq_true g1
        have HB := Lib.hid (HN.out (by rw [HY.out]; omega))
        go_wp2
        go_ret
        exact ⟨ret_bool HB.out.symm, _, rfl⟩
    · obtain rfl : k = xs.length := by omega
      have HB := Lib.hid (show cutV first n xs = true from decide_eq_true HOK.out)
      go_wp2
      go_ret
      exact ⟨ret_bool HB.out.symm, _, rfl⟩
end Go.Proofs.Ytopeppnajbnfgaa
