/- Equal tables. -/
import Derived.Test.YtnnaaoobdofooaaRN
namespace Go.Proofs.Ytnnaaoobdofooaa
open Go.RowKit
set_option maxHeartbeats 1000000
set_option maxRecDepth 100000
theorem tables_yes (A B : Option Addr) (c d : Nat) (L : List (List Int)) (n : Nat) (w : World) (hn : L.length = n) (hx : n ≤ 1000000) (hr : ∀ i, i < n → (getl L i).length ≤ 1000000) (ha : RowsAt w A L) (hb : RowsAt w B L) :
    Calls Try.prog 29 #[.slice A n c, .slice B n d] w fun e w' => e = .returned (.bool true) ∧ Below w.heap.size w w' := by
  subst hn
  have HA := Lib.hid ha
  have HB := Lib.hid hb
  have HR := Lib.hid hr
  have b0 : Below w.heap.size w w := Below.refl _ _
  clear ha hb hr
  go_enter Try.func29, Try.ntmps29
  go_wp2
  go_loopw [5] (fun i wr => ∃ m : Nat, m ≤ L.length ∧ i = .int .i64 m ∧ Below w.heap.size w wr) (fun i _ => L.length - (intOf i).toNat)
  case atStart => exact ⟨0, by omega, rfl, b0⟩
  case round =>
    clear b0
    obtain ⟨m, hm, rfl, b0⟩ := hrel
    by_cases hlt : m < L.length
    · have g1 : decide ((m : Int) < (L.length : Int)) = true := decide_eq_true (by omega)
      obtain ⟨b, o, hAe, hbb, hcs⟩ := (HA.out.below b0) (by omega)
      subst hAe
      obtain ⟨B1, c1, d1, i1⟩ := hcs m hlt
      obtain ⟨b2, o2, hBe, hbb2, hcs2⟩ := (HB.out.below b0) (by omega)
      subst hBe
      obtain ⟨B2, c2, d2, i2⟩ := hcs2 m hlt
      have HI := Lib.hid (fun (k : Nat) => ints_yes B1 B2 c1 c2 (getl L m) (getl L m).length (wr.drewN k) rfl (HR.out m hlt) (i1.drewN k) (i2.drewN k))
      clear hcs hcs2 i1 i2
      go_wp2
      refine wp_region_quiet_lit (by kernel_rfl) (by kernel_rfl) ?_
      repeat go_big_quiet_step (((first | exact quiet_of2 (HI.out _) | exact (HI.out _) | (refine (HI.out _).mono ?_; rintro e w8 ⟨rfl, n8, rfl⟩; exact ⟨rfl, _, World.drewN_drewN _ _ _⟩))))
      refine wpQuiet_nil ?_
      rintro _ ⟨nq, rfl⟩
      have b3 := b0.trans (below_drewN (B := w.heap.size) (w := wr) nq)
      clear d1 d2 HI
      go_wp2
      exact ⟨⟨m + 1, by omega, rfl, b3⟩, by simp [intOf]; omega⟩
    · obtain rfl : m = L.length := by omega
      go_wp2
      go_ret
      exact ⟨rfl, b0⟩
end Go.Proofs.Ytnnaaoobdofooaa
