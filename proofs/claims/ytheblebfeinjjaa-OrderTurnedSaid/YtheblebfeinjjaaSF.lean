/- The reference's cycles and written order. -/
import Derived.Test.YtheblebfeinjjaaQM
import Derived.Test.YtheblebfeinjjaaQC
/- The reference's cycles. -/
namespace Go.Proofs.Ytheblebfeinjjaa
open Go.RowKit
set_option maxHeartbeats 2000000
set_option maxRecDepth 100000
/-- Lists of numbers, one behind the other. -/
def getl (L : List (List Int)) (k : Nat) : List Int := L.getD k []
def RowsAt (w : World) (A : Option Addr) (L : List (List Int)) : Prop :=
  0 < L.length → ∃ b o, A = some ⟨b, o, none⟩ ∧ b < w.heap.size ∧ ∀ i, i < L.length → ∃ B c, w.cell? ⟨b, o + i, none⟩ = some (.slice B (getl L i).length c) ∧ IntsAt w B (getl L i)
theorem RowsAt.below {w w' : World} {A : Option Addr} {L : List (List Int)} (h : RowsAt w A L) (hg : Below w.heap.size w w') : RowsAt w' A L := fun hp => by
  obtain ⟨b, o, e, hb, hc⟩ := h hp
  refine ⟨b, o, e, Nat.lt_of_lt_of_le hb hg.size, fun i hi => ?_⟩
  obtain ⟨B, c, h1, h2⟩ := hc i hi
  exact ⟨B, c, (hg.cell (p := ⟨b, _, none⟩) hb).trans h1, h2.below hg⟩
/-- Rows of the call's own, each of its own. -/
def RowsOwn (w : World) (B : Nat) (cs : List Value) (L : List (List Int)) : Prop := cs.length = L.length ∧ ∀ j, j < L.length → ∃ v, cs[j]? = some v ∧ w.ownsRow B 3 1 v (getl L j).length (iv (getl L j))
theorem RowsOwn.below {w w' : World} {B : Nat} {cs : List Value} {L : List (List Int)} (h : RowsOwn w B cs L) (k : Below w.heap.size w w') : RowsOwn w' B cs L := ⟨h.1, fun j hj => by
  obtain ⟨v, h1, h2⟩ := h.2 j hj
  exact ⟨v, h1, h2.kept' k⟩⟩
theorem getl_app {L : List (List Int)} {r : List Int} {j : Nat} : getl (L ++ [r]) j = if j < L.length then getl L j else if j = L.length then r else [] := by
  unfold getl
  rw [List.getD_eq_getElem?_getD, List.getD_eq_getElem?_getD]
  by_cases h : j < L.length
  · rw [if_pos h, List.getElem?_append_left h]
  · rw [if_neg h, List.getElem?_append_right (by omega)]
    by_cases h2 : j = L.length
    · subst h2; simp
    · rw [if_neg h2, List.getElem?_eq_none (by simp; omega)]; rfl
/-- Another row is laid behind them. -/
theorem RowsOwn.add {w : World} {B : Nat} {cs : List Value} {L : List (List Int)} {v : Value} {r : List Int} (h : RowsOwn w B cs L) (hv : w.ownsRow B 3 1 v r.length (iv r)) : RowsOwn w B (cs ++ [v]) (L ++ [r]) := by
  refine ⟨by simp [h.1], fun j hj => ?_⟩
  rw [List.length_append, List.length_singleton] at hj
  by_cases e : j < L.length
  · obtain ⟨u, h1, h2⟩ := h.2 j e
    refine ⟨u, by rw [List.getElem?_append_left (by rw [h.1]; exact e)]; exact h1, ?_⟩
    rw [getl_app, if_pos e]; exact h2
  · obtain rfl : j = L.length := by omega
    refine ⟨v, by rw [← h.1]; simp, ?_⟩
    rw [getl_app, if_neg e, if_pos rfl]; exact hv
/-- The rows stay while the list of them is written. -/
theorem RowsOwn.grown {w w' : World} {B C n : Nat} {cs xs : List Value} {L : List (List Int)} {u : Value} {z : Nat} {t : TypeId} (h : RowsOwn w B cs L) (hu : w.ownsRow C t z u n xs) (ht : t ≠ 3) (hg : w.grownBy w' u.ownBlock) : RowsOwn w' B cs L := ⟨h.1, fun j hj => by
  obtain ⟨v, h1, h2⟩ := h.2 j hj
  refine ⟨v, h1, h2.kept hg ?_⟩
  cases hb : v.ownBlock with
  | none => exact .inl rfl
  | some g =>
    refine .inr (fun e => ?_)
    obtain ⟨_, _, c1, h3⟩ := own_ge h2 hb
    obtain ⟨_, _, c2, h4⟩ := own_ge hu e.symm
    rw [h3] at h4
    injection h4 with h4
    injection h4 with _ h4
    exact ht h4.symm⟩
theorem rows_at {w : World} {B C c n : Nat} {A : Option Addr} {cs : List Value} {L : List (List Int)} (h : RowsOwn w B cs L) (hu : w.ownsRow C 22 1 (.slice A n c) n cs) : RowsAt w A L := fun hp => by
  have hn : cs.length = n := by have := hu.1; omega
  rcases hu.2 with ⟨h1, h0⟩ | ⟨g, cap, cur, h1, hb, hg, hc, _, hs, ht⟩
  · have := h.1; omega
  · injection h1 with h1 h2 h3
    subst h1 h3
    refine ⟨g, 0, rfl, (Array.getElem?_eq_some_iff.1 hg).1, fun j hj => ?_⟩
    obtain ⟨v, h4, h5⟩ := h.2 j hj
    obtain ⟨A', c', rfl, -, -, h6⟩ := own_intsI h5
    refine ⟨A', c', ?_, h6⟩
    have := hu.cells (g := g) rfl j _ h4
    rw [WideShapes.add_plain] at this
    exact this
theorem info22 : (Try.prog.info? 22).map (fun i => (i.zero, i.size, i.bytes)) = some (some (.slice none 0 0), 1, 24) := by kernel_rfl

def cyT (l : List Int) : Nat → List (List Int)
  | 0 => []
  | k + 1 => cyT l k ++ if isG l (k + 1) then [cyc l (k + 1)] else []
theorem cyT_len (l : List Int) : ∀ k, (cyT l k).length = cntN (isGb l) k
  | 0 => rfl
  | k + 1 => by
    unfold cyT cntN
    rw [List.length_append, cyT_len l k]
    congr 1
    unfold isGb
    split <;> rfl
theorem cyT_le (l : List Int) (k : Nat) : (cyT l k).length ≤ k := by rw [cyT_len]; exact cntN_le _ _
theorem cyT_flat (l : List Int) : ∀ k, (cyT l k).flatten = wrN l k
  | 0 => rfl
  | k + 1 => by
    unfold cyT wrN
    rw [List.flatten_append, cyT_flat l k]
    congr 1
    split <;> simp
def CycR (l : List Int) (w : World) (e : Ending) (w' : World) : Prop := ∃ A c cs, e = .returned (.slice A (cyT l l.length).length c) ∧ w'.ownsRow w.heap.size 22 1 (.slice A (cyT l l.length).length c) (cyT l l.length).length cs ∧ RowsOwn w' w.heap.size cs (cyT l l.length) ∧ Below w.heap.size w w'
theorem own_head {W : World} {B n : Nat} {t : TypeId} {v : Value} {cs : List Value} (h : W.ownsRow B t 1 v n cs) : ∃ A c, v = .slice A n c := by
  rcases h.2 with ⟨h1, h0⟩ | ⟨g, cap, cur, h1, _⟩
  · exact ⟨none, 0, by rw [h1, h0]⟩
  · exact ⟨_, _, h1⟩
theorem refCycles_any (A : Option Addr) (c : Nat) (l : List Int) (w : World) (h : IsO l) (ha : IntsAt w A l) : Calls Try.prog 56 #[.slice A l.length c] w (CycR l w) := by
  obtain ⟨j0, ji, jz0, jz1, jz2⟩ := info_parts info3
  obtain ⟨k0, ki, kz0, kz1, kz2⟩ := info_parts info22
  have hle := h.le
  have HA := Lib.hid ha
  have HH := Lib.hid h
  have HT : Hid (∀ k, cyT l (k + 1) = cyT l k ++ if isG l ((k : Int) + 1) then [cyc l ((k : Int) + 1)] else []) := Lib.hid (fun k => rfl)
  have HTL := Lib.hid (cyT_le l)
  have o0 : w.ownsRow w.heap.size 22 1 (.slice none 0 0) (cyT l 0).length [] := ⟨rfl, .inl ⟨rfl, rfl⟩⟩
  have R0 : Hid (RowsOwn w w.heap.size [] (cyT l 0)) := Lib.hid ⟨rfl, fun j hj => absurd hj (by simp [cyT])⟩
  have b0 := Below.refl w.heap.size w
  clear h ha
  go_enter Try.func56, Try.ntmps56
  go_wp2
  go_loopw [3, 4] (fun v i wr => ∃ (k : Nat) (cs : List Value), k ≤ l.length ∧ i = .int .i64 ((k : Int) + 1) ∧ wr.ownsRow w.heap.size 22 1 v (cyT l k).length cs ∧ Hid (RowsOwn wr w.heap.size cs (cyT l k)) ∧ Below w.heap.size w wr) (fun _ i _ => l.length + 1 - (intOf i).toNat)
  case atStart => exact ⟨0, [], by omega, rfl, o0, R0, b0⟩
  case round =>
    clear o0 R0 b0
    obtain ⟨k, cs, hk, rfl, o0, HR, b0⟩ := hrel
    by_cases hlt : k < l.length
    · have g1 : decide ((k : Int) + 1 ≤ (l.length : Int)) = true := decide_eq_true (by omega)
      obtain ⟨bA, oA, hAe, hbA, f1⟩ := (HA.out.below b0) (by omega)
      subst hAe
      have d1 := f1 k hlt
      obtain ⟨W1, hW1⟩ : ∃ W1, W1 = wr := ⟨_, rfl⟩
      subst hW1
      obtain ⟨A2, c2, rfl⟩ := own_head o0
      have hR := HH.out.nx (x := (k : Int) + 1) (by omega) (by omega)
      have hnx : nx l ((k : Int) + 1) = geti l k := by unfold nx; rw [show ((k : Int) + 1 - 1).toNat = k by omega]
      rw [← hnx] at d1
      clear f1 hnx
      have hS1 : (1 : Int) ≤ (k : Int) + 1 := by omega
      have hS2 : (k : Int) + 1 ≤ (l.length : Int) := by omega
      have HCT := Lib.hid (HT.out k)
      have hcl := HTL.out k
      have HO0 := Lib.hid o0
      have hsz := b0.size
      have hcy0 : CycAt l ((k : Int) + 1) [(k : Int) + 1] := CycAt.start hS1 hS2
      obtain ⟨s, hs⟩ : ∃ s : Int, (k : Int) + 1 = s := ⟨_, rfl⟩
      have HSK := Lib.hid hs
      have o1 : (W1.alloc (.cells #[.int .i64 s] 3)).ownsRow W1.heap.size 3 1 (.slice (some ⟨W1.heap.size, 0, none⟩) 1 1) [s].length (iv [s]) :=
        ⟨rfl, .inr ⟨W1.heap.size, 1, #[.int .i64 s], rfl, Nat.le_refl _, heap_alloc_new _ _, Nat.le_refl _, by unfold maxLen; omega, rfl, rfl⟩⟩
      have z1 : Below W1.heap.size W1 (W1.alloc (.cells #[.int .i64 s] 3)) := (Below.refl _ _).alloc (Nat.le_refl _) _
      have hki : s - 1 = (k : Int) := by omega
      rw [hs] at g1 d1 hR hS1 hS2 hcy0 HCT ⊢
      have e1 : cyc l s = [s] ++ cycGo l s (13 - [s].length) (nx l s) := rfl
      have C1 := Lib.hid hcy0
      have E1 := Lib.hid e1
      have hk12 : k < 12 := by omega
      clear hcy0 e1 hs o0
      go_wp2
      clear d1 g1 hki
      go_loopw [5, 6, 7] (fun v gq x wr => ∃ (cl : List Int) (y : Int) (q : Bool) (A : Option Addr) (cp : Nat), x = .int .i64 y ∧ v = .slice A cl.length cp ∧ gq = .bool q ∧ Hid (CycAt l s cl) ∧ Hid (y = nx l (geti cl (cl.length - 1))) ∧ Hid (cl ++ cycGo l s (13 - cl.length) y = cyc l s) ∧ cl.length ≤ 12 ∧ 1 ≤ y ∧ y ≤ l.length ∧ wr.ownsRow W1.heap.size 3 1 v cl.length (iv cl) ∧ Hid (q = cl.all fun x => decide (x ≤ s)) ∧ Below W1.heap.size W1 wr) (fun v _ _ _ => match v with | .slice _ n _ => 13 - n | _ => 0)
      case atStart => exact ⟨[s], nx l s, true, _, _, rfl, rfl, rfl, C1, Lib.hid rfl, Lib.hid E1.out.symm, by simp, hR.1, hR.2, o1, Lib.hid (by simp), z1⟩
      case round =>
        clear C1 o1 hR E1 z1
        obtain ⟨cl, y, q, A3, cp, rfl, rfl, rfl, HC, HY, HE, hc12, hy1, hy2, o1, HQ, z1⟩ := hrel
        have hz1 := z1.size
        by_cases hys : y = s
        · have HF := Lib.hid (show cl = cyc l s by have h := HE.out; rw [hys, cyc_end] at h; exact h)
          have g1 : (y != s) = false := by simp [hys]
          have HG : Hid (isG l s = q) := Lib.hid (by rw [HQ.out, HF.out]; rfl)
          have rx : RowsOwn wr w.heap.size cs (cyT l k) := HR.out.below z1
          have b3 := b0.trans (z1.mono hsz)
          have oO := HO0.out.kept' z1
          clear hys HE hy1 hy2
          cases q
          · have HT2 : Hid (cyT l (k + 1) = cyT l k) := Lib.hid (by rw [HCT.out, HG.out]; simp)
            have RX := Lib.hid rx
            go_wp2
            go_roundw
            case rel => exact ⟨k + 1, cs, by omega, by have := HSK.out; go_num, by rw [HT2.out]; exact oO, by rw [HT2.out]; exact RX, b3⟩
            case measure => have := HSK.out; simp [intOf]; omega
          · have HT2 : Hid (cyT l (k + 1) = cyT l k ++ [cyc l s]) := Lib.hid (by rw [HCT.out, HG.out]; simp)
            have RX := Lib.hid (rx.add (r := cl) (own_mono o1 hsz))
            have OO := Lib.hid oO
            have hnr : Row (wr.alloc (.cells #[.slice A3 cl.length cp] 22)) wr.heap.size 22 [.slice A3 cl.length cp] := row_new rfl
            clear rx oO o1
            go_wp2_with (at_builtin; refine wpList_append_own_at _ rfl (.tmp 40) (.tmp 42) 48 rfl w.heap.size 22 k0 (.slice none 0 0) 1 24 Try.underlying48 ki kz0 kz1 kz2 rfl (by decide) _ _ _ rfl (OO.out.alloc _) ⟨wr.heap.size, 0, none⟩ 1 1 [.slice A3 cl.length cp] rfl rfl (news_one hnr) (by simp [Value.oneCell']) (by unfold maxLen; omega) (by omega) (by simp; omega) ?_; intro v8 w8 o8 hg8 _ _)
            have b8 := b3.trans (app1' OO.out b3.size hg8)
            have HLL : Hid ((cyT l (k + 1)).length = (cyT l k).length + 1) := Lib.hid (by rw [HT2.out]; simp)
            go_roundw
            case rel =>
              refine ⟨k + 1, cs ++ [.slice A3 cl.length cp], by omega, by have := HSK.out; go_num, by rw [HLL.out]; exact o8, Lib.hid ?_, b8⟩
              rw [HT2.out, ← HF.out]
              exact (RX.out.below ((Below.refl _ _).alloc (Nat.le_refl _) _)).grown (OO.out.alloc _) (by decide) hg8
            case measure => have := HSK.out; simp [intOf]; omega
        · have g1 : (y != s) = true := by simp [hys]
          have HC2 := Lib.hid (HC.out.snoc HH.out HY.out hys)
          have HE2 := Lib.hid ((cyc_yes HH.out HC.out hys).symm.trans HE.out)
          have HR2 := HH.out.nx hy1 hy2
          have hcl2 := HC2.out.len
          rw [List.length_append, List.length_singleton] at hcl2
          obtain ⟨p, hp⟩ : ∃ p : Nat, y - 1 = (p : Int) := ⟨(y - 1).toNat, by omega⟩
          have hnp : nx l y = geti l p := by unfold nx; rw [show (y - 1).toNat = p by omega]
          have hp2 : p < l.length := by omega
          have HQ2 : Hid ((cl ++ [y]).all (fun x => decide (x ≤ s)) = (q && decide (y < s))) := Lib.hid (by
            rw [List.all_append, ← HQ.out]
            congr 1
            simp
            omega)
          have HAY : Hid (∀ V : World, Below W1.heap.size W1 V → V.cell? ⟨bA, oA + p, none⟩ = some (.int .i64 (nx l y))) := Lib.hid (fun V hV => by
            obtain ⟨bB, oB, hBe, -, f2⟩ := ((HA.out.below b0).below hV) (by omega)
            injection hBe with hBe
            injection hBe with e1 e2
            subst e1 e2
            rw [hnp]; exact f2 p hp2)
          generalize hz : nx l y = z at *
          have HZ := Lib.hid hz
          clear hz hys hnp
          have hnr : Row (wr.alloc (.cells #[.int .i64 y] 3)) wr.heap.size 3 [.int .i64 y] := row_new rfl
          generalize hq2 : decide (y < s) = q2 at *
          cases q
          all_goals
            go_wp2_with (at_builtin; refine wpList_append_own_at _ rfl (.tmp 35) (.tmp 37) 22 rfl W1.heap.size 3 j0 (.int .i64 0) 1 8 Try.underlying22 ji jz0 jz1 jz2 rfl (by decide) _ _ _ rfl (o1.alloc _) ⟨wr.heap.size, 0, none⟩ 1 1 [.int .i64 y] rfl rfl (news_one hnr) (by simp [Value.oneCell']) (by unfold maxLen; omega) (by omega) (by simp; omega) ?_; intro v2 w2 o2 hg2 _ _; have b4 := z1.trans (app1' o1 hz1 hg2); have dy := HAY.out _ b4)
            have o3 : w2.ownsRow W1.heap.size 3 1 v2 (cl ++ [y]).length (iv (cl ++ [y])) := by
              rw [iv_snoc, List.length_append, List.length_singleton]; exact o2
            obtain ⟨A4, c4, e4, -, -, -⟩ := own_intsI o3
            subst e4
            have HY2 := Lib.hid (show z = nx l (geti (cl ++ [y]) ((cl ++ [y]).length - 1)) by rw [List.length_append, List.length_singleton, Nat.add_sub_cancel, geti_snoc (Nat.le_refl _), if_neg (by omega)]; exact HZ.out.symm)
            have hlen : (cl ++ [y]).length = cl.length + 1 := by simp
            go_roundw
            case rel => exact ⟨cl ++ [y], z, _, A4, c4, rfl, rfl, rfl, HC2, HY2, HE2, by omega, HR2.1, HR2.2, o3, Lib.hid HQ2.out.symm, b4⟩
            case measure => dsimp only; omega
    · obtain rfl : k = l.length := by omega
      have g1 : decide ((l.length : Int) + 1 ≤ (l.length : Int)) = false := decide_eq_false (by omega)
      obtain ⟨A2, c2, rfl⟩ := own_head o0
      go_wp2
      go_ret
      exact ⟨A2, c2, cs, rfl, o0, HR.out, b0⟩
end Go.Proofs.Ytheblebfeinjjaa
/- The reference's written order. -/
namespace Go.Proofs.Ytheblebfeinjjaa
open Go.RowKit
set_option maxHeartbeats 1000000
set_option maxRecDepth 100000
/-- So many rows, one behind the other. -/
def flN (L : List (List Int)) (k : Nat) : List Int := (L.take k).flatten
theorem flN_snoc {L : List (List Int)} {k : Nat} (h : k < L.length) : flN L (k + 1) = flN L k ++ getl L k := by
  unfold flN getl
  rw [List.take_add_one, List.getElem?_eq_getElem h, List.getD_eq_getElem?_getD, List.getElem?_eq_getElem h, List.flatten_append]
  simp
theorem flN_all (L : List (List Int)) : flN L L.length = L.flatten := by unfold flN; rw [List.take_length]
theorem flN_le (L : List (List Int)) (k : Nat) : (flN L k).length ≤ L.flatten.length := by
  unfold flN
  have : L.flatten = (L.take k).flatten ++ (L.drop k).flatten := by rw [← List.flatten_append, List.take_append_drop]
  rw [this, List.length_append]
  omega
theorem cyT_pos (l : List Int) : ∀ k x, x ∈ cyT l k → 0 < x.length
  | 0, x, h => by cases h
  | k + 1, x, h => by
    unfold cyT at h
    rcases List.mem_append.1 h with h | h
    · exact cyT_pos l k x h
    · cases hg : isG l (k + 1)
      · rw [hg] at h; cases h
      · rw [hg, if_pos rfl] at h
        rcases List.mem_singleton.1 h with rfl
        unfold cyc
        simp
theorem getl_mem {L : List (List Int)} {k : Nat} (h : k < L.length) : getl L k ∈ L := by
  unfold getl
  rw [List.getD_eq_getElem?_getD, List.getElem?_eq_getElem h]
  exact List.getElem_mem h
theorem refWritten_any (A : Option Addr) (c : Nat) (l : List Int) (w : World) (h : IsO l) (ha : IntsAt w A l) :
    Calls Try.prog 35 #[.slice A l.length c] w fun e w' => ∃ v, e = .returned v ∧ w'.ownsRow w.heap.size 3 1 v (wr' l).length (iv (wr' l)) ∧ Below w.heap.size w w' := by
  obtain ⟨j0, ji, jz0, jz1, jz2⟩ := info_parts info3
  have hle := h.le
  have HC := Lib.hid (refCycles_any A c l w h ha)
  have HLL := Lib.hid (Nat.le_trans (cyT_le l l.length) hle)
  have HP := Lib.hid (cyT_pos l l.length)
  have hf : (cyT l l.length).flatten = wr' l := cyT_flat l l.length
  have hwl := wr_len h
  have HW := Lib.hid hf
  have hb : (cyT l l.length).flatten.length ≤ 12 := by rw [hf, hwl]; exact hle
  unfold CycR at HC
  clear ha
  generalize cyT l l.length = L at *
  clear h hle
  go_enter Try.func35, Try.ntmps35
  go_wp2_with (go_at_call 56; fail)
  refine HC.out.mono ?_
  rintro e w3 ⟨A3, c3, cs, rfl, o3, ro3, b3⟩
  have HRL := Lib.hid (rows_at ro3 o3)
  have o0 : w3.ownsRow w3.heap.size 3 1 (.slice none 0 0) (flN L 0).length (iv (flN L 0)) := ⟨rfl, .inl ⟨rfl, rfl⟩⟩
  have b1 : Below w3.heap.size w3 w3 := Below.refl _ _
  clear o3 ro3 HC
  have HFS := Lib.hid (fun k (hk : k < L.length) => flN_snoc hk)
  have HFL := Lib.hid (flN_le L)
  have hLl : L.length ≤ 12 := HLL.out
  go_wp2
  go_loopw [3, 5] (fun v i wr => ∃ k : Nat, k ≤ L.length ∧ i = .int .i64 k ∧ wr.ownsRow w3.heap.size 3 1 v (flN L k).length (iv (flN L k)) ∧ Below w3.heap.size w3 wr) (fun _ i _ => L.length - (intOf i).toNat)
  case atStart => exact ⟨0, by omega, rfl, o0, b1⟩
  case round =>
    clear o0 b1
    obtain ⟨k, hk, rfl, o0, b1⟩ := hrel
    obtain ⟨A2, c2, rfl, -, -, -⟩ := own_intsI o0
    by_cases hlt : k < L.length
    · have g1 : decide ((k : Int) < (L.length : Int)) = true := decide_eq_true (by omega)
      obtain ⟨b, o, e3, hb, hcs⟩ := HRL.out (by omega)
      subst e3
      obtain ⟨B, cB, hc1, hi1⟩ := hcs k hlt
      obtain ⟨bB, oB, rfl, -, -⟩ := hi1 (HP.out _ (getl_mem hlt))
      have d1 := (b1.cell (p := ⟨b, o + k, none⟩) hb).trans hc1
      have hi2 := hi1.below b1
      have hn1 := news_ints hi2
      have HS := Lib.hid (HFS.out k hlt)
      have hm := HFL.out (k + 1)
      rw [HS.out, List.length_append] at hm
      have hm0 : (flN L k).length + (getl L k).length ≤ 12 := by omega
      have hz1 := b1.size
      clear hcs hc1 hi1 hi2 hm
      generalize getl L k = r at *
      generalize flN L k = F at *
      go_wp2_with (at_builtin; refine wpList_append_own_at _ rfl (.tmp 14) (.tmp 18) 22 rfl w3.heap.size 3 j0 (.int .i64 0) 1 8 Try.underlying22 ji jz0 jz1 jz2 rfl (by decide) _ _ _ rfl o0 ⟨bB, oB, none⟩ r.length cB (iv r) rfl (by simp [iv]) hn1 (iv_one _) (by unfold maxLen; omega) (by omega) hz1 ?_; intro v2 w2 o2 hg2 _ _)
      go_roundw
      case rel =>
        have e2 : iv (flN L (k + 1)) = iv F ++ iv r := by rw [HS.out]; simp [iv]
        have e3 : (flN L (k + 1)).length = F.length + r.length := by rw [HS.out, List.length_append]
        exact ⟨k + 1, by omega, by go_num, by rw [e2, e3]; exact o2, b1.trans ((Below.refl w3.heap.size _).grown hg2 hz1 (fun g hg => (own_ge o0 hg).1))⟩
      case measure => simp [intOf]; omega
    · obtain rfl : k = L.length := by omega
      have e2 : flN L L.length = wr' l := (flN_all L).trans HW.out
      have o4 := own_mono o0 b3.size
      go_wp2
      go_ret
      exact ⟨_, rfl, by rw [← e2]; exact o4, b3.trans (b1.mono b3.size)⟩
end Go.Proofs.Ytheblebfeinjjaa
