/- Does a share prove a fraction? -/
import Derived.Test.YtmfpegadcecknaaO
import Derived.Test.YtmfpegadcecknaaY
namespace Go.Proofs.Ytmfpegadcecknaa
open Go.RowKit
set_option maxHeartbeats 4000000
set_option maxRecDepth 100000
def ldS (c : List Nat) (a b x y : Nat) : List Nat := (c.set a (getn c a + x)).set b (getn (c.set a (getn c a + x)) b + y)
/-- The loads of the first k edges. -/
def ldT (es ss : List (Int × Int)) : Nat → List Nat
  | 0 => zer
  | k + 1 => ldS (ldT es ss k) (pA es k).toNat (pB es k).toNat (pA ss k).toNat (pB ss k).toNat
def shOK (ss : List (Int × Int)) (q k : Nat) : Prop := ∀ i, i < k → 0 ≤ pA ss i ∧ pA ss i ≤ q ∧ pB ss i = q - pA ss i
instance (ss : List (Int × Int)) (q k : Nat) : Decidable (shOK ss q k) := by unfold shOK; infer_instance
def ldOK (c : List Nat) (p : Nat) : Prop := ∀ v, v < 16 → getn c v ≤ p
instance (c : List Nat) (p : Nat) : Decidable (ldOK c p) := by unfold ldOK; infer_instance
def provV (es ss : List (Int × Int)) (p q : Nat) : Bool := decide (ss.length = es.length ∧ shOK ss q es.length ∧ ldOK (ldT es ss es.length) p)
theorem ldS_len (c : List Nat) (a b x y : Nat) : (ldS c a b x y).length = c.length := by simp [ldS]
theorem ldT_len (es ss : List (Int × Int)) : ∀ k, (ldT es ss k).length = 16
  | 0 => by simp [ldT, zer]
  | k + 1 => by rw [ldT, ldS_len]; exact ldT_len es ss k
theorem getn_set_le {c : List Nat} {a x y i : Nat} (h : getn c i ≤ y) (hx : x ≤ y) : getn (c.set a x) i ≤ y := by
  by_cases hl : a < c.length
  · rw [getn_set hl]; split <;> omega
  · rw [List.set_eq_of_length_le (by omega)]; exact h
theorem getn_le_all {c : List Nat} {B : Nat} (h : ∀ i, getn c i ≤ B) (a x : Nat) : ∀ i, getn (c.set a (getn c a + x)) i ≤ B + x := fun i => getn_set_le (by have := h i; omega) (by have := h a; omega)
theorem ldT_le {ss : List (Int × Int)} {q : Nat} (es : List (Int × Int)) : ∀ k, shOK ss q k → ∀ i, getn (ldT es ss k) i ≤ k * (2 * q)
  | 0, _, i => by
    show getn zer i ≤ _
    unfold getn zer
    rw [List.getD_eq_getElem?_getD, List.getElem?_replicate]; split <;> simp
  | k + 1, h, i => by
    have ih := ldT_le es k (fun j hj => h j (by omega))
    have h1 := h k (by omega)
    rw [ldT]
    unfold ldS
    have h2 := getn_le_all (getn_le_all ih (pA es k).toNat (pA ss k).toNat) (pB es k).toNat (pB ss k).toNat i
    have h3 : (k + 1) * (2 * q) = k * (2 * q) + 2 * q := Nat.succ_mul _ _
    omega
theorem run_index93 (cs : Array Value) (j : Nat) (hj : j < 16) (x : Int) (w : World) (h : cs[j]? = some (.int .i64 x)) : (Instr.index 93 (.agg cs) (.int .i64 j)).run Try.prog w = .ok (.int .i64 x) w := by
  obtain ⟨i0, hi, hz0, hz1, hz2⟩ := info_parts info3
  have h1 : (0:Int) ≤ j ∧ (j:Int) < 16 := by omega
  simp [Instr.index, asIntOf, Sem.run_bind, run_underlying Try.underlying93, sizeOf, typeInfo, hi, hz1, part, h, h1]
  omega
theorem proves_any (A B : Option Addr) (c d p q : Nat) (es ss : List (Int × Int)) (w : World) (hx : es.length ≤ 1000000) (ha : PairsAt w A es) (hb : PairsAt w B ss) (hq : q ≤ 1000000)
    (he : ∀ k, k < es.length → 0 ≤ pA es k ∧ pA es k < 16 ∧ 0 ≤ pB es k ∧ pB es k < 16 ∧ pA es k ≠ pB es k) :
    Calls Try.prog 46 #[.slice A es.length c, .slice B ss.length d, frac p q] w fun e w' => e = .returned (.bool (provV es ss p q)) ∧ Below w.heap.size w w' := by
  have HA := Lib.hid ha
  have HB := Lib.hid hb
  have HE := Lib.hid he
  clear ha hb he
  cases gl : ((ss.length : Int) != es.length)
  case true =>
    have hne : ¬ ss.length = es.length := by intro e; rw [e] at gl; simp at gl
    go_enter Try.func46, Try.ntmps46
    go_wp2
    go_ret
    refine ⟨ret_bool (by unfold provV; symm; apply decide_eq_false; exact fun h => hne h.1), ?_⟩
    (repeat (first | exact Below.refl _ _ | assumption | (refine Below.setCell ?_ (by first | exact Nat.le_refl _ | omega | (simp; done) | (simp; omega)) _) | (refine Below.trans ?_ (below_drewN _)) | (refine Below.drew ?_) | (refine Below.alloc ?_ (by first | exact Nat.le_refl _ | omega | (simp; done) | (simp; omega)) _) | (refine below_row ?_ (by first | exact Nat.le_refl _ | omega | (simp; done) | (simp; omega)) _)))
  case false =>
    have hel : ss.length = es.length := by simp at gl; omega
    have HL := Lib.hid hel
    go_enter Try.func46, Try.ntmps46
    go_wp2
    generalize hw1 : World.alloc _ _ = w1
    have HW := Lib.hid hw1
    clear hw1
    have hb : Below w.heap.size w w1 := by rw [← HW.out]; (repeat (first | exact Below.refl _ _ | assumption | (refine Below.setCell ?_ (by first | exact Nat.le_refl _ | omega | (simp; done) | (simp; omega)) _) | (refine Below.trans ?_ (below_drewN _)) | (refine Below.drew ?_) | (refine Below.alloc ?_ (by first | exact Nat.le_refl _ | omega | (simp; done) | (simp; omega)) _) | (refine below_row ?_ (by first | exact Nat.le_refl _ | omega | (simp; done) | (simp; omega)) _)))
    have hz : w.heap.size + 2 ≤ w1.heap.size := by rw [← HW.out]; simp; try omega
    have r0 : Row w1 w.heap.size 26 [.int .i64 p, .int .i64 q] := by rw [← HW.out]; exact (Row.new w 26 _).alloc _
    have r1 : Row w1 (w.heap.size + 1) 93 (intv zer) := by rw [← HW.out]; exact row_new (cs := intv zer) (by simp)
    clear HW
    go_loopw [21] (fun i wr => ∃ k : Nat, k ≤ es.length ∧ i = .int .i64 k ∧ shOK ss q k ∧ Row wr (w.heap.size + 1) 93 (intv (ldT es ss k)) ∧ Row wr w.heap.size 26 [.int .i64 p, .int .i64 q] ∧ Below w.heap.size w wr) (fun i _ => es.length - (intOf i).toNat)
    case atStart => exact ⟨0, by omega, rfl, fun j hj => absurd hj (by omega), r1, r0, hb⟩
    case round =>
      obtain ⟨k, hk, rfl, hall, hr, hr0, hbr⟩ := hrel
      have HALL := Lib.hid hall
      have hle := ldT_le es k hall
      have HLE := Lib.hid hle
      have ltr := hr.lt
      have ltr0 := hr0.lt
      obtain ⟨⟨k0, k1⟩, -⟩ := hr0.cells2
      clear hall hz hb r0 r1 hle
      by_cases hlt : k < es.length
      · obtain ⟨b, o, rfl, hb1, hc⟩ := HA.out (by omega)
        obtain ⟨b', o', rfl, hb1', hc'⟩ := HB.out (by have := HL.out; omega)
        obtain ⟨c1, c2⟩ := hc k hlt
        obtain ⟨c3, c4⟩ := hc' k (by have := HL.out; omega)
        have hlk : k < ss.length := by have := HL.out; omega
        have c1' : wr.cell? ⟨b, o + k * 2, none⟩ = some (.int .i64 (pA es k)) := (hbr.cell (p := ⟨b, _, none⟩) hb1).trans c1
        have c2' : wr.cell? ⟨b, o + k * 2 + 1, none⟩ = some (.int .i64 (pB es k)) := (hbr.cell (p := ⟨b, _, none⟩) hb1).trans c2
        have c3' : wr.cell? ⟨b', o' + k * 2, none⟩ = some (.int .i64 (pA ss k)) := (hbr.cell (p := ⟨b', _, none⟩) hb1').trans c3
        have c4' : wr.cell? ⟨b', o' + k * 2 + 1, none⟩ = some (.int .i64 (pB ss k)) := (hbr.cell (p := ⟨b', _, none⟩) hb1').trans c4
        obtain ⟨e1, e2, e3, e4, e5⟩ := HE.out k hlt
        have lb : b < wr.heap.size := Nat.lt_of_lt_of_le hb1 hbr.size
        have lb' : b' < wr.heap.size := Nat.lt_of_lt_of_le hb1' hbr.size
        clear hc hc' c1 c2 c3 c4
        generalize hX : pA ss k = x at *
        generalize hY : pB ss k = y at *
        generalize hAA : pA es k = a at *
        generalize hBB : pB es k = b2 at *
        have HX := Lib.hid hX
        have HY := Lib.hid hY
        have HAA := Lib.hid hAA
        have HBB := Lib.hid hBB
        clear hX hY hAA hBB
        cases g1 : decide (x < 0) <;> cases g2 : decide ((q:Int) < x) <;> cases g3 : (y != q - x)
        all_goals
          first
            | (have hx0 : 0 ≤ x := by simp at g1; omega
               have hxq : x ≤ q := by simp at g2; omega)
            | skip
        case false.false.false =>
          have hyq : y = q - x := by simpa using g3
          have c5 : wr.cell? ⟨w.heap.size + 1, a.toNat, none⟩ = some (.int .i64 (getn (ldT es ss k) a.toNat)) := intv_row hr (by rw [ldT_len]; omega)
          have f5 := hr.free a.toNat
          have c6 : wr.cell? ⟨w.heap.size + 1, b2.toNat, none⟩ = some (.int .i64 (getn (ldT es ss k) b2.toNat)) := intv_row hr (by rw [ldT_len]; omega)
          have f6 := hr.free b2.toNat
          have hab : a.toNat ≠ b2.toNat := by omega
          have hb1 := HLE.out a.toNat
          have hb2 := HLE.out b2.toNat
          have hkq : k * (2 * q) ≤ 1000000 * (2 * 1000000) := Nat.mul_le_mul (by omega) (by omega)
          go_wp2
          refine wp_region_quiet_lit (by kernel_rfl) (by kernel_rfl) ?_
          repeat go_big_quiet_step ((fail))
          refine wpQuiet_nil ?_
          rintro _ ⟨nq, rfl⟩
          go_wp2
          go_roundw
          case rel =>
            have h5 := (((hr.alloc (.cells #[.int .i64 a, .int .i64 b2] 67)).drewN nq).set a.toNat (.int .i64 (getn (ldT es ss k) a.toNat + x))).set b2.toNat (.int .i64 (getn (ldT es ss k) b2.toNat + (q - x)))
            refine ⟨k + 1, by omega, by go_num, fun j hj => ?_, ?_, (((hr0.alloc _).drewN nq).far (by dsimp only; omega) _).far (by dsimp only; omega) _, ?_⟩
            · by_cases h : j = k
              · subst h; rw [HX.out, HY.out]; exact ⟨hx0, hxq, hyq⟩
              · exact HALL.out j (by omega)
            · have e6 : ((getn (ldT es ss k) a.toNat : Int) + x) = ((getn (ldT es ss k) a.toNat + x.toNat : Nat) : Int) := by omega
              have e7 : ((getn (ldT es ss k) b2.toNat : Int) + (q - x)) = ((getn (ldT es ss k) b2.toNat + y.toNat : Nat) : Int) := by omega
              rw [e6, e7, intv_set, intv_set] at h5
              rw [ldT, HAA.out, HBB.out, HX.out, HY.out]
              unfold ldS
              rw [getn_set (by rw [ldT_len]; omega), if_neg hab, e6, e7]
              exact h5
            · (repeat (first | exact Below.refl _ _ | assumption | (refine Below.setCell ?_ (by first | exact Nat.le_refl _ | omega | (simp; done) | (simp; omega)) _) | (refine Below.trans ?_ (below_drewN _)) | (refine Below.drew ?_) | (refine Below.alloc ?_ (by first | exact Nat.le_refl _ | omega | (simp; done) | (simp; omega)) _) | (refine below_row ?_ (by first | exact Nat.le_refl _ | omega | (simp; done) | (simp; omega)) _)))
          case measure => simp [intOf]; omega
        all_goals
          go_wp2
          refine wp_region_quiet_lit (by kernel_rfl) (by kernel_rfl) ?_
          repeat go_big_quiet_step ((fail))
          refine wpQuiet_nil ?_
          rintro _ ⟨nq, rfl⟩
          go_wp2
          go_ret
          refine ⟨ret_bool ?_, ?_⟩
          · unfold provV; symm; apply decide_eq_false; rintro ⟨_, h, _⟩
            have h1 := h k hlt
            rw [HX.out, HY.out] at h1
            simp at g1 g2 g3
            omega
          · (repeat (first | exact Below.refl _ _ | assumption | (refine Below.setCell ?_ (by first | exact Nat.le_refl _ | omega | (simp; done) | (simp; omega)) _) | (refine Below.trans ?_ (below_drewN _)) | (refine Below.drew ?_) | (refine Below.alloc ?_ (by first | exact Nat.le_refl _ | omega | (simp; done) | (simp; omega)) _) | (refine below_row ?_ (by first | exact Nat.le_refl _ | omega | (simp; done) | (simp; omega)) _)))
      · obtain rfl : k = es.length := by omega
        have hcl := ldT_len es ss es.length
        generalize hC : ldT es ss es.length = C at *
        have HC := Lib.hid hC
        have HCL := Lib.hid hcl
        have hi93 := Lib.hid (show (Try.prog.info? 93).map (·.size) = some (intv C).toArray.size by rw [info93 hcl]; simp)
        have hpv : ∀ Pb : Prop, (Pb ↔ ldOK C p) → ∀ [Decidable Pb], provV es ss p q = decide Pb := by
          intro Pb h1 _
          unfold provV; rw [HC.out]
          apply decide_eq_decide.2
          constructor
          · rintro ⟨_, _, h⟩; exact h1.2 h
          · intro h; exact ⟨HL.out, HALL.out, h1.1 h⟩
        have HPV := Lib.hid hpv
        clear hC hcl hpv
        go_wp2_with (refine wpList_load_row rfl 93 (.tmp 7) rfl (w.heap.size + 1) rfl 93 (intv C).toArray (0, 0) _ hr Try.underlying93 rfl hi93.out ?_)
        go_loopw [68] (fun i wr2 => ∃ j : Nat, j ≤ 16 ∧ i = .int .i64 j ∧ wr = wr2 ∧ ∀ v, v < j → getn C v ≤ p) (fun i _ => 16 - (intOf i).toNat)
        case atStart => exact ⟨0, by omega, rfl, rfl, fun v hv => absurd hv (by omega)⟩
        case round =>
          obtain ⟨j, hj, rfl, rfl, hv⟩ := hrel
          have HV := Lib.hid hv
          clear hv
          by_cases hlt2 : j < 16
          · have hel : (intv C).toArray[j]? = some (.int .i64 (getn C j)) := by
              have : j < C.length := by rw [HCL.out]; exact hlt2
              rw [List.getElem?_toArray]; unfold intv; rw [List.getElem?_map, List.getElem?_eq_getElem this, getn_eq this]; rfl
            have hidx := run_index93 (intv C).toArray j hlt2 _ wr hel
            generalize hy : getn C j = y at *
            have HY := Lib.hid hy
            clear hy hel
            cases g : decide (p < y)
            · go_wp2
              go_roundw
              case rel =>
                refine ⟨j + 1, by omega, by go_num, by trivial, fun v hv => ?_⟩
                by_cases h : v = j
                · subst h; rw [HY.out]; simp at g; exact g
                · exact HV.out v (by omega)
              case measure => simp [intOf]; omega
            · go_wp2
              go_ret
              refine ⟨ret_bool ?_, hbr⟩
              rw [HPV.out False ⟨fun h => h.elim, fun h => ?_⟩]
              · rfl
              · have := h j hlt2
                rw [HY.out] at this
                simp at g; omega
          · obtain rfl : j = 16 := by omega
            go_wp2
            go_ret
            refine ⟨ret_bool ?_, hbr⟩
            rw [HPV.out True ⟨fun _ => HV.out, fun _ => trivial⟩]; rfl
end Go.Proofs.Ytmfpegadcecknaa
