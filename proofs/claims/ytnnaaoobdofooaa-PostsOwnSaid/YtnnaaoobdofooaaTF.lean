/- The pairs of what is joined. -/
import Derived.Test.YtnnaaoobdofooaaTE
import Derived.Test.YtnnaaoobdofooaaSQ
import Derived.Test.YtnnaaoobdofooaaRS
namespace Go.Proofs.Ytnnaaoobdofooaa
open Go.RowKit
set_option maxHeartbeats 1000000
set_option maxRecDepth 100000
/-- Pairs as cells. -/
def pcs (ps : List (Int × Int)) : List Value := ps.flatMap fun p => [.int .i64 p.1, .int .i64 p.2]
theorem pcs_len (ps : List (Int × Int)) : (pcs ps).length = ps.length * 2 := by
  induction ps with
  | nil => rfl
  | cons p ps ih =>
    show (([.int .i64 p.1, .int .i64 p.2] : List Value) ++ pcs ps).length = _
    rw [List.length_append, ih, List.length_cons]
    simp; omega
theorem pcs_snoc (ps : List (Int × Int)) (a b : Int) : pcs (ps ++ [(a, b)]) = pcs ps ++ [.int .i64 a, .int .i64 b] := by
  unfold pcs; rw [List.flatMap_append]; rfl
/-- The pairs of the first rows. -/
def prs (M : List Int) : Nat → List (Int × Int)
  | 0 => []
  | r + 1 => if fst1 M (r : Int) 10 = -1 then prs M r else prs M r ++ [((r : Int), fst1 M (r : Int) 10)]
theorem prs_len (M : List Int) : ∀ r, (prs M r).length ≤ r
  | 0 => Nat.le_refl _
  | r + 1 => by
    have := prs_len M r
    unfold prs
    split
    · omega
    · rw [List.length_append, List.length_singleton]; omega
theorem fst1_bd (xs : List Int) (x : Int) : ∀ k : Nat, -1 ≤ fst1 xs x k ∧ fst1 xs x k < k
  | 0 => by show (-1 : Int) ≤ -1 ∧ (-1 : Int) < 0; omega
  | k + 1 => by
    have := fst1_bd xs x k
    unfold fst1
    split
    · split <;> omega
    · omega
theorem info36 : (Try.prog.info? 36).map (fun i => (i.zero, i.size, i.bytes)) = some (some (.agg #[.int .i64 0, .int .i64 0]), 2, 16) := by kernel_rfl
theorem own_head2 {W : World} {B n z : Nat} {t : TypeId} {v : Value} {cs : List Value} (h : W.ownsRow B t z v n cs) : ∃ A c, v = .slice A n c := by
  rcases h.2 with ⟨h1, h0⟩ | ⟨g, cap, cur, h1, _⟩
  · exact ⟨none, 0, by rw [h1, h0]⟩
  · exact ⟨_, _, h1⟩
theorem news_two {W : World} {g : Nat} {t : TypeId} {x y : Value} (h : Row W g t [x, y]) : ∀ j u, [x, y][j]? = some u → W.cell? ((⟨g, 0, none⟩ : Addr).add j) = some u := by
  intro j u hj
  rw [WideShapes.add_plain, Nat.zero_add, h.cell, hj]
theorem pairs_any (n : Nat) (M : List Int) (st : Nat) (w : World) (hn : n ≤ 10) (hM : M.length = 10) :
    Calls Try.prog 62 #[.agg (jc n M st).toArray] w fun e w' => ∃ v, e = .returned v ∧ w'.ownsRow w.heap.size 36 2 v (prs M n).length (pcs (prs M n)) ∧ Below w.heap.size w w' := by
  have r0 : Row (w.alloc (.cells (jc n M st).toArray 87)) w.heap.size 87 (jc n M st) := row_new rfl
  have b0 : Below w.heap.size w (w.alloc (.cells (jc n M st).toArray 87)) := by (repeat (first | exact Below.refl _ _ | assumption | (refine Below.setCell ?_ (by first | exact Nat.le_refl _ | omega | (simp; done) | (simp; omega)) _) | (refine Below.trans ?_ (below_drewN _)) | (refine Below.drew ?_) | (refine Below.alloc ?_ (by first | exact Nat.le_refl _ | omega | (simp; done) | (simp; omega)) _) | (refine below_row ?_ (by first | exact Nat.le_refl _ | omega | (simp; done) | (simp; omega)) _)))
  have c0 : (w.alloc (.cells (jc n M st).toArray 87)).cell? ⟨w.heap.size, 0, none⟩ = some (.int .i64 (n : Int)) := by rw [r0.cell]; rfl
  have hsl : ∀ w' : World, (Instr.sliceAt 70 (.pointer (some ⟨w.heap.size, 1, none⟩)) none none none).run Try.prog w' = .ok (.slice (some ⟨w.heap.size, 1, none⟩) 10 10) w' := fun w' => by
    obtain ⟨j0, ji, jz0, jz1, jz2⟩ := info_parts info3
    rw [run_sliceAt_array_all w' 70 ⟨w.heap.size, 1, none⟩ (by rw [arrayLen70, elem70]; exact Try.underlying70), elem70, arrayLen70]
    simp [run_sizeOf, ji, slicedAt, Addr.add]
  have HI : Hid (∀ V : World, Row V w.heap.size 87 (jc n M st) → ∀ x, Calls Try.prog 74 #[.slice (some ⟨w.heap.size, 1, none⟩) 10 10, .int .i64 x] V fun e w' => e = .returned (.int .i64 (fst1 M x 10)) ∧ ∃ m, w' = V.drewN m) := Lib.hid (fun V hV x => by
    have hi : IntsAt V (some ⟨w.heap.size, 1, none⟩) M := fun _ => ⟨_, 1, rfl, hV.lt, fun i hi => by
      rw [hV.cell]
      unfold jc
      rw [Nat.add_comm, List.getElem?_cons_succ, List.getElem?_append_left (by rw [iv_len]; omega)]
      unfold iv
      rw [List.getElem?_map, List.getElem?_eq_getElem hi, geti_eq hi]; rfl⟩
    have := Index_any (some ⟨w.heap.size, 1, none⟩) 10 M x V (by omega) hi
    rw [hM] at this
    exact this)
  have o0 : (w.alloc (.cells (jc n M st).toArray 87)).ownsRow w.heap.size 36 2 (.slice none 0 0) 0 (pcs (prs M 0)) := ⟨rfl, .inl ⟨rfl, rfl⟩⟩
  have HPS : Hid (∀ r : Nat, prs M (r + 1) = if fst1 M (r : Int) 10 = -1 then prs M r else prs M r ++ [((r : Int), fst1 M (r : Int) 10)]) := Lib.hid (fun r => rfl)
  have HFB := Lib.hid (fun x => fst1_bd M x 10)
  have HPL := Lib.hid (prs_len M)
  obtain ⟨k0, ki, kz0, kz1, kz2⟩ := info_parts info36
  go_enter Try.func62, Try.ntmps62
  go_wp2
  go_loopw [3, 8] (fun v i wr => ∃ r : Nat, r ≤ n ∧ i = .int .i64 r ∧ wr.ownsRow w.heap.size 36 2 v (prs M r).length (pcs (prs M r)) ∧ Row wr w.heap.size 87 (jc n M st) ∧ Below w.heap.size w wr) (fun _ i _ => n - (intOf i).toNat)
  case atStart => exact ⟨0, by omega, rfl, o0, r0, b0⟩
  case round =>
    clear o0 r0 b0 c0
    obtain ⟨r, hr, rfl, o0, r0, b0⟩ := hrel
    by_cases hlt : r < n
    · have g1 : decide ((r : Int) < (n : Int)) = true := decide_eq_true (by omega)
      have HI1 := Lib.hid (HI.out wr r0 (r : Int))
      have hs := HPS.out r
      have hfb := HFB.out (r : Int)
      have hpl := HPL.out r
      obtain ⟨A2, c2, rfl⟩ := own_head2 o0
      have HO := Lib.hid o0
      clear o0
      generalize fst1 M (r : Int) 10 = z at *
      by_cases hz : z = -1
      · have g2 : decide (0 ≤ z) = false := decide_eq_false (by omega)
        rw [if_pos hz] at hs
        have HS1 := Lib.hid hs
        clear hs hz
        go_wp2_with (go_at_call 74; refine HI1.out.mono ?_; rintro e w1 ⟨rfl, n1, rfl⟩)
        go_roundw
        case rel => exact ⟨r + 1, by omega, by go_num, by rw [HS1.out]; exact HO.out.kept' (below_drewN n1), r0.drewN n1, b0.trans (below_drewN n1)⟩
        case measure => simp [intOf]; omega
      · have g2 : decide (0 ≤ z) = true := decide_eq_true (by omega)
        rw [if_neg hz] at hs
        have HS1 := Lib.hid hs
        have hbs := b0.size
        clear hs hz
        generalize prs M r = ps at *
        have HPC := Lib.hid (pcs_snoc ps (r : Int) z)
        have hnr : Hid (∀ k, Row ((wr.drewN k).alloc (.cells #[.int .i64 (r : Int), .int .i64 z] 36)) wr.heap.size 36 [.int .i64 (r : Int), .int .i64 z]) := Lib.hid (fun k => row_new rfl)
        go_wp2_with (first
          | (go_at_call 74; refine HI1.out.mono ?_; rintro e w1 ⟨rfl, n1, rfl⟩)
          | (at_builtin; refine wpList_append_own_at _ rfl (.tmp 17) (.tmp 21) 52 rfl w.heap.size 36 k0 (.agg #[.int .i64 0, .int .i64 0]) 2 16 Try.underlying52 ki kz0 kz1 kz2 rfl (by decide) _ _ _ rfl ((HO.out.kept' (below_drewN n1)).alloc _) ⟨wr.heap.size, 0, none⟩ 1 1 [.int .i64 (r : Int), .int .i64 z] rfl rfl (news_two (hnr.out n1)) (by simp [Value.oneCell']) (by unfold maxLen; omega) (by omega) (by simp; omega) ?_; intro v9 w9 o9 hg9 _ _))
        have O4 := HO.out.kept' (below_drewN (B := wr.heap.size) n1)
        have b9 := b0.trans ((below_drewN n1).trans (app1' O4 (by simpa using hbs) hg9))
        have r9 := ((r0.drewN n1).alloc (.cells #[.int .i64 (r : Int), .int .i64 z] 36)).grown hg9 (((r0.drewN n1).alloc (.cells #[.int .i64 (r : Int), .int .i64 z] 36)).not_own (O4.alloc (.cells #[.int .i64 (r : Int), .int .i64 z] 36)) (by decide))
        rw [← HPC.out] at o9
        go_roundw
        case rel => exact ⟨r + 1, by omega, by go_num, by rw [HS1.out, List.length_append, List.length_singleton]; exact o9, r9, b9⟩
        case measure => simp [intOf]; omega
    · obtain rfl : r = n := by omega
      have g1 : decide ((r : Int) < (r : Int)) = false := decide_eq_false (by omega)
      go_wp2
      go_ret
      exact ⟨_, rfl, o0, b0⟩
end Go.Proofs.Ytnnaaoobdofooaa
