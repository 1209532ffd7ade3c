/- A cycle is collected. -/
import Derived.Test.YtheblebfeinjjaaNH
namespace Go.Proofs.Ytheblebfeinjjaa
open Go.RowKit
set_option maxHeartbeats 1000000
set_option maxRecDepth 100000
theorem nx_cell {w : World} {g : Nat} {l : List Int} (hr : Row w g 50 (iv (pad l))) (hl : l.length ≤ 12) {x : Int} (h1 : 1 ≤ x) (h2 : x ≤ l.length) : w.cell? ⟨g, x.toNat - 1, none⟩ = some (.int .i64 (nx l x)) := by
  rw [show x.toNat - 1 = (x - 1).toNat by omega]
  have h := ivR hr (i := (x - 1).toNat) (by rw [pad_len hl]; omega)
  rwa [pad_at] at h
theorem cycle_any (l : List Int) (s : Int) (w : World) (h : IsO l) (h1 : 1 ≤ s) (h2 : s ≤ l.length) :
    Calls Try.prog 78 #[arr l, .int .i64 s] w fun e w' => ∃ v, e = .returned v ∧ w'.ownsRow w.heap.size 3 1 v (cyc l s).length (iv (cyc l s)) ∧ Below w.heap.size w w' := by
  have hle := h.le
  have hpl := pad_len hle
  have r0 : Row (w.alloc (.cells (iv (pad l)).toArray 50)) w.heap.size 50 (iv (pad l)) := row_new rfl
  have r1 := r0.alloc (.cells #[.int .i64 s] 3)
  have b1 : Below w.heap.size w ((w.alloc (.cells (iv (pad l)).toArray 50)).alloc (.cells #[.int .i64 s] 3)) := by (repeat (first | exact Below.refl _ _ | assumption | (refine Below.setCell ?_ (by first | exact Nat.le_refl _ | omega | (simp; done) | (simp; omega)) _) | (refine Below.trans ?_ (below_drewN _)) | (refine Below.drew ?_) | (refine Below.alloc ?_ (by first | exact Nat.le_refl _ | omega | (simp; done) | (simp; omega)) _) | (refine below_row ?_ (by first | exact Nat.le_refl _ | omega | (simp; done) | (simp; omega)) _)))
  have o1 : ((w.alloc (.cells (iv (pad l)).toArray 50)).alloc (.cells #[.int .i64 s] 3)).ownsRow (w.heap.size + 1) 3 1 (.slice (some ⟨w.heap.size + 1, 0, none⟩) 1 1) [s].length (iv [s]) :=
    ⟨rfl, .inr ⟨w.heap.size + 1, 1, #[.int .i64 s], rfl, Nat.le_refl _, (by have := heap_alloc_new (w.alloc (.cells (iv (pad l)).toArray 50)) (.cells #[.int .i64 s] 3); simpa using this), Nat.le_refl _, by unfold maxLen; omega, rfl, rfl⟩⟩
  have c1 : CycAt l s [s] := CycAt.start h1 h2
  have hn1 : (iv (pad l))[s.toNat - 1]? = some (.int .i64 (nx l s)) := by
    rw [iv_get (by omega), pad_at, show s.toNat - 1 = (s - 1).toNat by omega]; rfl
  have hR := h.nx h1 h2
  have e1 : cyc l s = [s] ++ cycGo l s (13 - [s].length) (nx l s) := rfl
  have HH := Lib.hid h
  have HCN := Lib.hid (fun (w' : World) (x : Int) (hr : Row w' w.heap.size 50 (iv (pad l))) => nx_cell hr hle (x := x))
  have E1 := Lib.hid e1
  clear h e1
  obtain ⟨j0, ji, jz0, jz1, jz2⟩ := info_parts info3
  unfold arr
  go_enter Try.func78, Try.ntmps78
  go_wp2
  clear hn1
  go_loopw [5, 6] (fun v x wr => ∃ (c : List Int) (y : Int) (A : Option Addr) (cp : Nat), x = .int .i64 y ∧ v = .slice A c.length cp ∧ Hid (CycAt l s c) ∧ Hid (y = nx l (geti c (c.length - 1))) ∧ Hid (c ++ cycGo l s (13 - c.length) y = cyc l s) ∧ c.length ≤ 12 ∧ 1 ≤ y ∧ y ≤ l.length ∧ wr.ownsRow (w.heap.size + 1) 3 1 v c.length (iv c) ∧ Row wr w.heap.size 50 (iv (pad l)) ∧ Below w.heap.size w wr) (fun v _ _ => match v with | .slice _ n _ => 13 - n | _ => 0)
  case atStart => exact ⟨[s], nx l s, _, _, rfl, rfl, Lib.hid c1, Lib.hid rfl, Lib.hid E1.out.symm, by simp, hR.1, hR.2, o1, r1, b1⟩
  case round =>
    clear c1 r1 b1 o1 hR E1
    obtain ⟨c, y, A, cp, rfl, rfl, HC, HY, HE, hc12, hy1, hy2, o1, r1, b1⟩ := hrel
    by_cases hys : y = s
    · have HF := Lib.hid (show c = cyc l s by have h := HE.out; rw [hys, cyc_end] at h; exact h)
      have g1 : (y != s) = false := by simp [hys]
      clear hys HE
      go_wp2
      go_ret
      exact ⟨_, rfl, by rw [← HF.out]; exact own_mono o1 (by omega), b1⟩
    · have g1 : (y != s) = true := by simp [hys]
      have HC2 := Lib.hid (HC.out.snoc HH.out HY.out hys)
      have HE2 := Lib.hid ((cyc_yes HH.out HC.out hys).symm.trans HE.out)
      have HR2 := Lib.hid (HH.out.nx hy1 hy2)
      have hcl := HC2.out.len
      rw [List.length_append, List.length_singleton] at hcl
      have hcy := HCN.out wr y r1 hy1 hy2
      generalize hz : nx l y = z at *
      have HZ := Lib.hid hz
      clear hz hys
      have hnr : Row (wr.alloc (.cells #[.int .i64 y] 3)) wr.heap.size 3 [.int .i64 y] := row_new rfl
      have hbs := b1.size
      have hr1 := r1.lt
      go_wp2_with (at_builtin; refine wpList_append_own_at _ rfl (.tmp 20) (.tmp 22) 22 rfl (w.heap.size + 1) 3 j0 (.int .i64 0) 1 8 Try.underlying22 ji jz0 jz1 jz2 rfl (by decide) _ _ _ rfl (o1.alloc _) ⟨wr.heap.size, 0, none⟩ 1 1 [.int .i64 y] rfl rfl (news_one hnr) (by simp [Value.oneCell']) (by unfold maxLen; omega) (by omega) (by simp; omega) ?_; intro v2 w2 o2 hg2 _ _; have b3 := app1' o1 (by omega) hg2; have r3 := (app1 o1 (by omega) hg2).2 _ _ _ (by decide) r1; have b2 := b1.trans (b3.mono (by omega)); have hcy2 := HCN.out w2 y r3 hy1 hy2; rw [HZ.out] at hcy2)
      have o3 : w2.ownsRow (w.heap.size + 1) 3 1 v2 (c ++ [y]).length (iv (c ++ [y])) := by
        rw [iv_snoc, List.length_append, List.length_singleton]; exact o2
      obtain ⟨A2, c2, e2, -, -, -⟩ := own_intsI o3
      subst e2
      have HY2 := Lib.hid (show z = nx l (geti (c ++ [y]) ((c ++ [y]).length - 1)) by rw [List.length_append, List.length_singleton, Nat.add_sub_cancel, geti_snoc (Nat.le_refl _), if_neg (by omega)]; exact HZ.out.symm)
      have hlen : (c ++ [y]).length = c.length + 1 := by simp
      have HR3 := HR2.out
      go_roundw
      case rel => exact ⟨c ++ [y], z, A2, c2, rfl, rfl, HC2, HY2, HE2, by omega, HR3.1, HR3.2, o3, r3, b2⟩
      case measure => dsimp only; omega
/-- Whether a number is the greatest of its cycle. -/
theorem isG_max {l : List Int} {s : Int} (h : IsO l) (h1 : 1 ≤ s) (h2 : s ≤ l.length) : decide (mxN (cyc l s) ((cyc l s).length - 1) = s) = isG l s := by
  obtain ⟨hc, -⟩ := cyc_ok h h1 h2
  have hp := hc.pos
  unfold isG
  by_cases hg : ∀ x ∈ cyc l s, x ≤ s
  · have e : mxN (cyc l s) ((cyc l s).length - 1) = s := mxN_eq.2 ⟨⟨0, Nat.zero_le _, hc.zero⟩, fun i hi => hg _ (geti_mem (by omega))⟩
    rw [decide_eq_true e]
    symm
    rw [List.all_eq_true]
    intro x hx
    exact decide_eq_true (hg x hx)
  · rw [decide_eq_false (fun e => hg (fun x hx => by
      obtain ⟨i, hi, rfl⟩ := mem_geti hx
      have := mxN_le (cyc l s) ((cyc l s).length - 1) i (by omega)
      omega))]
    symm
    rw [List.all_eq_false]
    obtain ⟨x, hx⟩ := Classical.not_forall.1 hg
    obtain ⟨hx1, hx2⟩ := Classical.not_imp.1 hx
    exact ⟨x, hx1, by simpa using hx2⟩
theorem isGreatest_any (l : List Int) (k : Nat) (w : World) (h : IsO l) (hk : k < l.length) :
    Calls Try.prog 77 #[arr l, .int .i64 k] w fun e w' => e = .returned (.bool (isG l (k + 1))) ∧ Below w.heap.size w w' := by
  have hle := h.le
  have hpl := pad_len hle
  have r0 : Row (w.alloc (.cells (iv (pad l)).toArray 50)) w.heap.size 50 (iv (pad l)) := row_new rfl
  have b0 : Below w.heap.size w (w.alloc (.cells (iv (pad l)).toArray 50)) := by (repeat (first | exact Below.refl _ _ | assumption | (refine Below.setCell ?_ (by first | exact Nat.le_refl _ | omega | (simp; done) | (simp; omega)) _) | (refine Below.trans ?_ (below_drewN _)) | (refine Below.drew ?_) | (refine Below.alloc ?_ (by first | exact Nat.le_refl _ | omega | (simp; done) | (simp; omega)) _) | (refine below_row ?_ (by first | exact Nat.le_refl _ | omega | (simp; done) | (simp; omega)) _)))
  have HC := Lib.hid (fun w => cycle_any l ((k : Int) + 1) w h (by omega) (by omega))
  have HG := Lib.hid (isG_max h (s := (k : Int) + 1) (by omega) (by omega))
  obtain ⟨hc, -⟩ := cyc_ok h (s := (k : Int) + 1) (by omega) (by omega)
  have hcp := hc.pos
  have hcl := hc.len
  unfold arr at HC ⊢
  generalize cyc l ((k : Int) + 1) = C at *
  clear hc
  have hi := info50_iv hpl
  generalize pad l = X at *
  clear h
  go_enter Try.func77, Try.ntmps77
  go_wp2_with (first
    | ((with_reducible refine (?_ : wpList _ _ _ (Oper.mk (some 5) _ _ _ _ _ :: _) _ _)); refine wpList_load_row rfl 50 (.tmp 2) rfl w.heap.size rfl 50 (iv X).toArray (0, 0) _ (row_heap r0) Try.underlying50 rfl hi ?_)
    | (go_at_call 78; fail))
  refine (HC.out _).mono ?_
  rintro e w2 ⟨v, rfl, o2, b2⟩
  obtain ⟨A, c, rfl, -, -, i2⟩ := own_intsI o2
  have HM := Lib.hid (Max_any A c C w2 hcp (by omega) i2)
  replace b2 := b0.trans (b2.mono b0.size)
  clear o2 i2 b0 r0
  go_wp2_with (go_at_call 89; refine HM.out.mono ?_; rintro e w3 ⟨rfl, rfl⟩)
  go_ret
  exact ⟨by rw [← HG.out]; rfl, b2⟩
end Go.Proofs.Ytheblebfeinjjaa
