/- CheckSplit, layers that come in, ref.Layers (merged) -/
import Derived.Test.YtnnaaoobdofooaaXB
import Derived.Test.YtnnaaoobdofooaaTF
import Derived.Test.YtnnaaoobdofooaaRQ
import Derived.Deep.SlicePairs
import Derived.Test.YtnnaaoobdofooaaRJ
import Derived.Test.YtnnaaoobdofooaaXC
import Derived.Test.YtnnaaoobdofooaaSE
/- The law's copy of layers. -/
namespace Go.Proofs.Ytnnaaoobdofooaa
open Go.RowKit
set_option maxHeartbeats 1000000
set_option maxRecDepth 100000
/-- Layers as they come in. -/
def LaysIn (w : World) (A : Option Addr) (ls : List Lay) : Prop :=
  0 < ls.length → ∃ b o, A = some ⟨b, o, none⟩ ∧ b < w.heap.size ∧ ∀ i, i < ls.length → w.cell? ⟨b, o + i * 2, none⟩ = some (.int .i64 (laW ls i)) ∧ ∃ B c, w.cell? ⟨b, o + i * 2 + 1, none⟩ = some (.slice B (laC ls i).length c) ∧ (laC ls i).length ≤ c ∧ c ≤ maxLen ∧ IntsAt w B (laC ls i)
theorem LaysIn.below {w w' : World} {A : Option Addr} {ls : List Lay} (h : LaysIn w A ls) (k : Below w.heap.size w w') : LaysIn w' A ls := fun hp => by
  obtain ⟨b, o, e, hb, hc⟩ := h hp
  refine ⟨b, o, e, Nat.lt_of_lt_of_le hb k.size, fun i hi => ?_⟩
  obtain ⟨h1, B, c, h2, h3, h4, h5⟩ := hc i hi
  exact ⟨(k.cell (p := ⟨b, _, none⟩) hb).trans h1, B, c, (k.cell (p := ⟨b, _, none⟩) hb).trans h2, h3, h4, h5.below k⟩
/-- Layers as cells. -/
def lcs (ps : List (Int × Value)) : List Value := ps.flatMap fun p => [.int .i64 p.1, p.2]
theorem lcs_len (ps : List (Int × Value)) : (lcs ps).length = ps.length * 2 := by
  induction ps with
  | nil => rfl
  | cons p ps ih =>
    show (([.int .i64 p.1, p.2] : List Value) ++ lcs ps).length = _
    rw [List.length_append, ih, List.length_cons]
    simp; omega
theorem lcs_snoc (ps : List (Int × Value)) (a : Int) (v : Value) : lcs (ps ++ [(a, v)]) = lcs ps ++ [.int .i64 a, v] := by
  unfold lcs; rw [List.flatMap_append]; rfl
theorem lcs_at (ps : List (Int × Value)) : ∀ k, k < ps.length → (lcs ps)[k * 2]? = some (.int .i64 (geti (ps.map (·.1)) k)) ∧ (lcs ps)[k * 2 + 1]? = (ps.map (·.2))[k]? := by
  induction ps with
  | nil => intro k h; exact absurd h (by simp)
  | cons p ps ih =>
    intro k h
    have e : lcs (p :: ps) = .int .i64 p.1 :: p.2 :: lcs ps := rfl
    cases k with
    | zero => exact ⟨rfl, rfl⟩
    | succ k =>
      have h2 := ih k (by simpa using h)
      rw [e, show (k + 1) * 2 = k * 2 + 1 + 1 by omega]
      exact h2
/-- So many layers, cut. -/
def lyR (ls : List Lay) (k : Nat) : List Lay := (ls.take k).map fun l => (l.1, l.2.take 12)
theorem lyR_len {ls : List Lay} {k : Nat} (h : k ≤ ls.length) : (lyR ls k).length = k := by unfold lyR; rw [List.length_map, List.length_take]; omega
theorem la_eq {ls : List Lay} {k : Nat} (h : k < ls.length) : laW ls k = ls[k].1 ∧ laC ls k = ls[k].2 := by
  unfold laW laC
  rw [List.getD_eq_getElem?_getD, List.getElem?_eq_getElem h]
  exact ⟨rfl, rfl⟩
theorem lyR_snoc {ls : List Lay} {k : Nat} (h : k < ls.length) : lyR ls (k + 1) = lyR ls k ++ [(laW ls k, (laC ls k).take 12)] := by
  obtain ⟨h1, h2⟩ := la_eq h
  rw [h1, h2]
  unfold lyR
  rw [List.take_add_one, List.getElem?_eq_getElem h, List.map_append]
  rfl
theorem info69 : (Try.prog.info? 69).map (fun i => (i.zero, i.size, i.bytes)) = some (some (.agg #[.int .i64 0, .slice none 0 0]), 2, 32) := by kernel_rfl
theorem layers_any (A : Option Addr) (c : Nat) (ls : List Lay) (w : World) (_hx : ls.length ≤ maxLen) (ha : LaysIn w A ls) :
    Calls Try.prog 42 #[.slice A ls.length c] w fun e w' => ∃ v ps, e = .returned v ∧ w'.ownsRow w.heap.size 69 2 v (min ls.length 101) (lcs ps) ∧ ps.map (·.1) = (lyR ls (min ls.length 101)).map (·.1) ∧ RowsOwn w' w.heap.size (ps.map (·.2)) ((lyR ls (min ls.length 101)).map (·.2)) ∧ Below w.heap.size w w' := by
  obtain ⟨k0, ki, kz0, kz1, kz2⟩ := info_parts info69
  have HA := Lib.hid ha
  have o0 : w.ownsRow w.heap.size 69 2 (.slice none 0 0) 0 (lcs []) := ⟨rfl, .inl ⟨rfl, rfl⟩⟩
  have R0 : Hid (RowsOwn w w.heap.size ([] : List Value) ((lyR ls 0).map (·.2))) := Lib.hid ⟨rfl, fun j hj => absurd hj (by simp [lyR])⟩
  have b0 := Below.refl w.heap.size w
  have HTS := Lib.hid (fun k (hk : k < ls.length) => lyR_snoc hk)
  obtain ⟨n, hn⟩ : ∃ n, min ls.length 101 = n := ⟨_, rfl⟩
  rw [hn]
  have hn1 : n ≤ ls.length := by omega
  have hn2 : n ≤ 101 := by omega
  have HNE : Hid (∀ k, k ≤ n → ¬ k < n → ¬ (k < ls.length ∧ k ≤ 100)) := Lib.hid (fun k h1 h2 => by omega)
  clear ha hn
  go_enter Try.func42, Try.ntmps42
  go_wp2
  go_loopw [3, 4] (fun v i wr => ∃ (k : Nat) (ps : List (Int × Value)), k ≤ n ∧ i = .int .i64 k ∧ wr.ownsRow w.heap.size 69 2 v k (lcs ps) ∧ Hid (ps.map (·.1) = (lyR ls k).map (·.1)) ∧ Hid (RowsOwn wr w.heap.size (ps.map (·.2)) ((lyR ls k).map (·.2))) ∧ Below w.heap.size w wr) (fun _ i _ => n - (intOf i).toNat)
  case atStart => exact ⟨0, [], by omega, rfl, o0, Lib.hid rfl, R0, b0⟩
  case round =>
    clear o0 R0 b0
    obtain ⟨k, ps, hk, rfl, o0, HW, HR, b0⟩ := hrel
    obtain ⟨A2, c2, rfl⟩ := own_head2 o0
    by_cases hlt : k < n
    · have g1 : decide ((k : Int) < (ls.length : Int)) = true := decide_eq_true (by omega)
      have g2 : decide ((k : Int) ≤ 100) = true := decide_eq_true (by omega)
      obtain ⟨b, o, hAe, hb, hcs⟩ := HA.out (by omega)
      subst hAe
      obtain ⟨d1, B, cB, d2, h3, h4, h2⟩ := hcs k (by omega)
      have HLC : Hid (∀ V : World, Below w.heap.size w V → Calls Try.prog 34 #[.slice B (laC ls k).length cB] V (Copied 3 1 (iv ((laC ls k).take 12)) V)) := Lib.hid (fun V hV => list_copy_any B cB (laC ls k) V h3 h4 (h2.below hV))
      have HO := Lib.hid o0
      have hsz := b0.size
      have HTK := Lib.hid (HTS.out k (by omega))
      have z0 : Below w.heap.size w wr.drew := b0.drew
      have KS : Hid (∀ V : World, Below w.heap.size w V → V.cell? ⟨b, o + k * 2, none⟩ = some (.int .i64 (laW ls k)) ∧ V.cell? ⟨b, o + k * 2 + 1, none⟩ = some (.slice B (laC ls k).length cB)) := Lib.hid (fun V hV => ⟨(hV.cell (p := ⟨b, _, none⟩) hb).trans d1, (hV.cell (p := ⟨b, _, none⟩) hb).trans d2⟩)
      clear hcs h2 h3 h4 o0 d1 d2
      generalize (laC ls k).take 12 = r at *
      generalize (laC ls k).length = cl at *
      generalize laW ls k = wt at *
      have HPS := Lib.hid (fun v => lcs_snoc ps wt v)
      go_wp2
      go_region_held3 (fun w' => w'.cell? ⟨b, o + k * 2, none⟩ = some (.int .i64 wt) ∧ w'.cell? ⟨b, o + k * 2 + 1, none⟩ = some (.slice B cl cB)) (first | assumption | exact KS.out _ z0 | exact KS.out _ z5 | exact KS.out _ (z5.alloc z5.size _) | exact KS.out _ z9) ((first
        | ((with_reducible refine (HLC.out _ z0).mono ?_); rintro e w5 ⟨v5, n5, rfl, o5, b5⟩; obtain ⟨A5, c5, rfl, hn5, -, -⟩ := own_intsI o5; subst hn5; have z5 := z0.trans (b5.mono z0.size); have O5 := HO.out.drew.kept' b5; have hb5 := z5.size)
        | (refine step_append_own_at rfl (.tmp 15) (.tmp 28) 56 rfl w.heap.size 69 k0 (.agg #[.int .i64 0, .slice none 0 0]) 2 32 Try.underlying56 ki kz0 kz1 kz2 rfl (by decide) _ k _ rfl (O5.alloc _) ⟨w5.heap.size, 0, none⟩ 1 1 [.int .i64 wt, .slice A5 r.length c5] rfl rfl ?_ ?_ ?_ ?_ ?_ ?_; exact news_two (row_new rfl); simp [Value.oneCell']; (unfold maxLen; omega); omega; (simp; omega); intro v9 w9 o9 hg9; have z9 := z5.trans (app1' O5 hb5 hg9))))
      have HWX : Hid ((ps ++ [(wt, Value.slice A5 r.length c5)]).map (·.1) = (lyR ls (k + 1)).map (·.1)) := Lib.hid (by rw [HTK.out, List.map_append, List.map_append, HW.out]; rfl)
      have RX : Hid (RowsOwn w9 w.heap.size ((ps ++ [(wt, Value.slice A5 r.length c5)]).map (·.2)) ((lyR ls (k + 1)).map (·.2))) := Lib.hid (by
        rw [HTK.out, List.map_append, List.map_append]
        exact (((HR.out.below (Below.refl _ _).drew).below b5).add (r := r) (own_mono o5 z0.size) |>.below ((Below.refl _ _).alloc (Nat.le_refl _) _)).grown (O5.alloc _) (by decide) hg9)
      rw [← HPS.out] at o9
      go_wp2
      go_roundw
      case rel => exact ⟨k + 1, _, by omega, by go_num, o9, HWX, RX, z9⟩
      case measure => simp [intOf]; omega
    · have hcase := HNE.out k hk hlt
      obtain rfl : k = n := by omega
      clear HNE hlt
      by_cases hL : k < ls.length
      · have g1 : decide ((k : Int) < (ls.length : Int)) = true := decide_eq_true (by omega)
        have g2 : decide ((k : Int) ≤ 100) = false := decide_eq_false (by omega)
        clear hcase
        go_wp2
        go_ret
        exact ⟨_, _, rfl, o0, HW.out, HR.out, b0⟩
      · have g1 : decide ((k : Int) < (ls.length : Int)) = false := decide_eq_false (by omega)
        clear hcase
        go_wp2
        go_ret
        exact ⟨_, _, rfl, o0, HW.out, HR.out, b0⟩
end Go.Proofs.Ytnnaaoobdofooaa
/- Layers that come in; layers of the law's own. -/
namespace Go.Proofs.Ytnnaaoobdofooaa
open Go.ChangeShapes Go.WideShapes Go.ChangeAt Go.RowKit
set_option maxHeartbeats 1000000
set_option maxRecDepth 100000
section
variable {H : Type} {enc : TypeId × Value → H} {W : World}
theorem open_row27 {n : Nat} {v : Value} {x : DataW H × List MemPlace} (h : DataW.trod enc Try.prog W 0 (fun _ => true) true n 27 [v] = some x) : ∃ A c xs, v = .slice A xs.length c ∧ xs.length ≤ c ∧ c ≤ maxLen ∧ IntsAt W A xs := by
  rcases open_ints Try.underlying27 Try.underlying3 Try.cells3 h with ⟨hcs, _⟩ | ⟨a, len, cap, zs, hcs, _, hl, hm, hz, _, hcell, _⟩
  · simp at hcs
    subst hcs
    exact ⟨none, 0, [], rfl, by simp, by simp, fun h => absurd h (by simp)⟩
  · simp at hcs
    subst hcs
    simp only [if_true] at hz
    have hlen : (zs.take len).length = len := by rw [List.length_take]; omega
    refine ⟨some a, cap, zs.take len, by rw [hlen], by omega, hm, fun hp => ?_⟩
    rw [hlen] at hp ⊢
    have g0 := hcell 0 (by omega)
    have hsp : a.spot = none := by
      have := World.cell?_spot g0
      simpa [Addr.add] using this
    obtain ⟨b, o, sp⟩ := a
    dsimp only at hsp
    subst hsp
    refine ⟨b, o, rfl, by have := cell_lt g0; simpa [Addr.add] using this, fun i hi => ?_⟩
    have := hcell i (by omega)
    rw [WideShapes.add_plain] at this
    rw [this, geti_take _ _ _ hi]; rfl
theorem open_lays {r : Reach} {b0 : Nat} {v : Value} {d : DataW H} {p : List MemPlace} (hv : Value.okWide Try.prog W r b0 56 v) (h : DataW.Trod enc Try.prog W 0 (fun _ => true) true 56 v d p) :
    ∃ A c ls, v = .slice A ls.length c ∧ ls.length ≤ c ∧ c ≤ maxLen ∧ LaysIn W A ls := by
  obtain ⟨A, l, c, rfl⟩ := okWide_slice Try.underlying56 hv
  obtain ⟨fuel, hf⟩ := h
  rcases Go.Deep.open_slice_pairs Try.underlying56 Try.underlying69 (by kernel_rfl) rfl rfl (by kernel_rfl) (by kernel_rfl) hf with ⟨hcs, _⟩ | ⟨a, len, cap, m, n, V0, V1, D0, D1, P0, P1, hcs, _, hl, hm, hmm, _, hx⟩
  · simp [Value.cells] at hcs
    obtain ⟨rfl, rfl, rfl⟩ := hcs
    exact ⟨none, 0, [], rfl, by simp, by simp, fun h => absurd h (by simp)⟩
  · simp [Value.cells] at hcs
    obtain ⟨rfl, rfl, rfl⟩ := hcs
    simp only [if_true] at hmm
    rw [hmm] at hx
    clear hmm
    have each : ∀ i, i < l → ∃ y : Int × Option Addr × Nat × List Int, V0 i = .int .i64 y.1 ∧ V1 i = .slice y.2.1 y.2.2.2.length y.2.2.1 ∧ y.2.2.2.length ≤ y.2.2.1 ∧ y.2.2.1 ≤ maxLen ∧ IntsAt W y.2.1 y.2.2.2 := fun i hi => by
      obtain ⟨_, _, h1, h2⟩ := hx i (by omega)
      obtain ⟨y0, e0, _⟩ := DataW.trod_int Try.underlying3 h1
      obtain ⟨B, k, xs, e1, e2, e3, e4⟩ := open_row27 h2
      exact ⟨(y0, B, k, xs), by simpa using e0, e1, e2, e3, e4⟩
    obtain ⟨y, hy⟩ := Go.Deep.choose_lt each
    have hlen : ((List.range l).map fun i => ((y i).1, (y i).2.2.2)).length = l := by simp
    refine ⟨some a, c, (List.range l).map fun i => ((y i).1, (y i).2.2.2), by rw [hlen], by omega, hm, fun hp => ?_⟩
    rw [hlen] at hp
    have g0 := (hx 0 (by omega)).1
    have hsp : a.spot = none := by
      have := World.cell?_spot g0
      simpa [Addr.add] using this
    obtain ⟨b, o, sp⟩ := a
    dsimp only at hsp
    subst hsp
    refine ⟨b, o, rfl, by have := cell_lt g0; simpa [Addr.add] using this, fun i hi => ?_⟩
    rw [hlen] at hi
    obtain ⟨c0, c1, _, _⟩ := hx i (by omega)
    obtain ⟨h1, h2, h3, h4, h5⟩ := hy i hi
    rw [WideShapes.add_plain] at c0 c1
    have hg : ((List.range l).map fun i => ((y i).1, (y i).2.2.2)).getD i (0, []) = ((y i).1, (y i).2.2.2) := by
      rw [List.getD_eq_getElem?_getD, List.getElem?_map, List.getElem?_range hi]; rfl
    unfold laW laC
    rw [hg]
    exact ⟨by rw [c0, h1], (y i).2.1, (y i).2.2.1, by rw [← h2, ← c1, Nat.add_assoc], h3, h4, h5⟩
end
/-- Layers of the law's own, in memory. -/
theorem lays_at {w : World} {B C n : Nat} {v : Value} {ps : List (Int × Value)} {ls : List Lay} (ho : w.ownsRow B 69 2 v n (lcs ps)) (hw : ps.map (·.1) = ls.map (·.1)) (hr : RowsOwn w C (ps.map (·.2)) (ls.map (·.2))) (hl : ls.length = n) (h12 : ∀ i, i < n → (laC ls i).length ≤ 12) : ∃ A c, v = .slice A n c ∧ LaysAt w A ls := by
  have hpl : ps.length = n := by have := congrArg List.length hw; simpa [hl] using this
  rcases ho.2 with ⟨rfl, h0⟩ | ⟨g, cap, cur, rfl, hb, hg, hc, _, hs, ht⟩
  · exact ⟨none, 0, by rw [h0], fun hp => by omega⟩
  · refine ⟨_, cap, rfl, fun hp => ⟨g, 0, rfl, (Array.getElem?_eq_some_iff.1 hg).1, fun i hi => ?_⟩⟩
    obtain ⟨a1, a2⟩ := lcs_at ps i (by omega)
    have c1 := ho.cells (g := g) rfl _ _ a1
    obtain ⟨u, hu, ou⟩ := hr.2 i (by simpa using hi)
    rw [hu] at a2
    have c2 := ho.cells (g := g) rfl _ _ a2
    rw [WideShapes.add_plain] at c1 c2
    have e1 : geti (ps.map (·.1)) i = laW ls i := by
      rw [hw]
      unfold geti laW
      rw [List.getD_eq_getElem?_getD, List.getD_eq_getElem?_getD, List.getElem?_map, List.getElem?_eq_getElem hi]; rfl
    have e2 : getl (ls.map (·.2)) i = laC ls i := by
      unfold getl laC
      rw [List.getD_eq_getElem?_getD, List.getD_eq_getElem?_getD, List.getElem?_map, List.getElem?_eq_getElem hi]; rfl
    rw [e1] at c1
    rw [e2] at ou
    obtain ⟨A', c', rfl, -, -, i3⟩ := own_intsI ou
    have := h12 i (by omega)
    exact ⟨c1, A', c', c2, i3, by omega⟩
theorem lyR_12 (ls : List Lay) (k i : Nat) : (laC (lyR ls k) i).length ≤ 12 := by
  unfold laC lyR
  rw [List.getD_eq_getElem?_getD, List.getElem?_map]
  cases (ls.take k)[i]? with
  | none => simp
  | some l => simp; omega
end Go.Proofs.Ytnnaaoobdofooaa
/- CheckSplit. -/
namespace Go.Proofs.Ytnnaaoobdofooaa
open Go.RowKit
set_option maxHeartbeats 1000000
set_option maxRecDepth 100000
theorem CheckSplit_no (A B : Option Addr) (c d : Nat) (T : List (List Int)) (ls : List Lay) (w : World) (hv : okT T = false) (ha : RowsAt w A T) :
    Calls Try.prog 40 #[.slice A T.length c, .slice B ls.length d] w fun e w' => e = .returned (.int .i64 2) ∧ Below w.heap.size w w' := by
  have HR := Lib.hid (readTable_no A c T w hv ha)
  clear hv ha
  go_enter Try.func40, Try.ntmps40
  go_wp2_with (first
    | (go_at_call 48; refine HR.out.mono ?_; rintro e w2 ⟨rfl, b2⟩; have q0 : Row (w2.alloc (.cells Try.zeroCells73 73)) w2.heap.size 73 Try.zeroCells73.toList := row_new (by simp); have b0 := b2.alloc b2.size (.cells Try.zeroCells73 73); have hbz := b2.size)
    | (with_reducible refine (?_ : wpList _ _ _ (Oper.mk _ (Op.store 73 (.tmp 5) _) _ _ _ _ :: _) _ _); refine wpList_store_row rfl 73 (.tmp 5) (.tmp 12) rfl w2.heap.size Try.zeroCells73 rfl rfl 73 Try.zeroCells73.toList.toArray (row_heap q0) info73_z rfl z73_all ?_; replace b0 := below_row (g := w2.heap.size) b0 hbz Try.zeroCells73; generalize World.setRow (w2.alloc _) _ _ = W at *))
  go_ret
  exact ⟨rfl, b0⟩
def csN (T : List (List Int)) (ls : List Lay) : Int := if isLev T = true then (if splA T ls = true then 0 else 10) else 2
theorem CheckSplit_yes (A B : Option Addr) (c d : Nat) (T : List (List Int)) (ls : List Lay) (w : World) (h : IsT T) (hls : ls.length ≤ 1000000) (ha : RowsAt w A T) (hb : LaysAt w B ls) :
    Calls Try.prog 40 #[.slice A T.length c, .slice B ls.length d] w fun e w' => e = .returned (.int .i64 (csN T ls)) ∧ Below w.heap.size w w' := by
  have HR := Lib.hid (readTable_yes A c T w h ha)
  have HV := Lib.hid (fun w => level_any T w h)
  have HS := Lib.hid (fun (V : World) hV => isSplit_any T B d ls V h hls (hb.below hV))
  have hi := info73_iv (x := grd T) (grdP_len _ 100)
  have hsz : Try.zeroCells73.toList.toArray.size = (iv (grd T)).toArray.size := by rw [z73]; exact size73_iv (by simp) (grdP_len T 100)
  have HF1 : Hid (isLev T = false → csN T ls = 2) := Lib.hid (fun e => by unfold csN; rw [e]; rfl)
  have HF2 : Hid (isLev T = true → splA T ls = false → csN T ls = 10) := Lib.hid (fun e e2 => by unfold csN; rw [e, e2]; rfl)
  have HF3 : Hid (isLev T = true → splA T ls = true → csN T ls = 0) := Lib.hid (fun e e2 => by unfold csN; rw [e, e2]; rfl)
  clear h ha hb
  generalize csN T ls = N at *
  generalize splA T ls = sb at *
  generalize isLev T = lb at *
  go_enter Try.func40, Try.ntmps40
  go_wp2_with (first
    | (go_at_call 48; refine HR.out.mono ?_; rintro e w2 ⟨rfl, b2⟩; have q0 : Row (w2.alloc (.cells Try.zeroCells73 73)) w2.heap.size 73 Try.zeroCells73.toList := row_new (by simp); have b0 := b2.alloc b2.size (.cells Try.zeroCells73 73); have hbz := b2.size)
    | (with_reducible refine (?_ : wpList _ _ _ (Oper.mk _ (Op.store 73 (.tmp 5) _) _ _ _ _ :: _) _ _); refine wpList_store_row rfl 73 (.tmp 5) (.tmp 12) rfl w2.heap.size (iv (grd T)).toArray rfl rfl 73 Try.zeroCells73.toList.toArray (row_heap q0) hi hsz (iv_all _) ?_; replace q0 := q0.row (iv (grd T)); replace b0 := below_row (g := w2.heap.size) b0 hbz (iv (grd T)).toArray; generalize World.setRow (w2.alloc _) _ _ = W at *)
    | (with_reducible refine (?_ : wpList _ _ _ (Oper.mk _ (Op.load 73 _) _ _ _ _ :: _) _ _); refine wpList_load_row rfl 73 (.tmp 5) rfl w2.heap.size rfl 73 (iv (grd T)).toArray (0, 0) _ (row_heap q0) Try.underlying73 rfl hi ?_)
    | (go_at_call 54; fail))
  refine (HV.out _).mono ?_
  rintro e w4 ⟨rfl, b4⟩
  replace q0 := q0.below b4
  replace b0 := b0.trans (b4.mono b0.size)
  clear b4 HV HR
  cases lb
  · have HF := Lib.hid (HF1.out (by trivial))
    go_wp2
    go_ret
    exact ⟨by rw [HF.out]; rfl, b0⟩
  · go_wp2_with (first
      | (with_reducible refine (?_ : wpList _ _ _ (Oper.mk _ (Op.load 73 _) _ _ _ _ :: _) _ _); refine wpList_load_row rfl 73 (.tmp 5) rfl w2.heap.size rfl 73 (iv (grd T)).toArray (0, 0) _ (row_heap q0) Try.underlying73 rfl hi ?_)
      | (go_at_call 64; fail))
    refine (HS.out _ b0).mono ?_
    rintro e w5 ⟨rfl, b5⟩
    replace b0 := b0.trans (b5.mono b0.size)
    clear b5 HS q0
    cases sb
    · have HF := Lib.hid (HF2.out (by trivial) (by trivial))
      go_wp2
      go_ret
      exact ⟨by rw [HF.out]; rfl, b0⟩
    · have HF := Lib.hid (HF3.out (by trivial) (by trivial))
      go_wp2
      go_ret
      exact ⟨by rw [HF.out]; rfl, b0⟩
end Go.Proofs.Ytnnaaoobdofooaa
/- The reference's layers. -/
namespace Go.Proofs.Ytnnaaoobdofooaa
open Go.RowKit
set_option maxHeartbeats 1000000
set_option maxRecDepth 100000
theorem take_snoc {T : List (List Int)} {k : Nat} (h : k < T.length) : T.take (k + 1) = T.take k ++ [getl T k] := by
  unfold getl
  rw [List.take_add_one, List.getElem?_eq_getElem h, List.getD_eq_getElem?_getD, List.getElem?_eq_getElem h]; rfl
theorem refLayers_any (A B : Option Addr) (c d : Nat) (T : List (List Int)) (ls : List Lay) (w : World) (h : IsT T) (hls : ls.length ≤ 1000000) (ha : RowsC w A T) (hb : LaysAt w B ls) :
    Calls Try.prog 41 #[.slice A T.length c, .slice B ls.length d] w fun e w' => e = .returned (.bool (splA T ls)) ∧ Below w.heap.size w w' := by
  obtain ⟨k0, ki, kz0, kz1, kz2⟩ := info_parts info27
  obtain ⟨i0, hi, hz0, hz1, hz2⟩ := info_parts info3
  have hle := h.le
  have b0 : Below w.heap.size w w := Below.refl _ _
  by_cases hl : ls.length ≤ 100
  · have g0 : decide (100 < (ls.length : Int)) = false := decide_eq_false (by omega)
    have HF : Hid (splA T ls = splB T ls) := Lib.hid (by unfold splA; rw [decide_eq_true hl]; rfl)
    have HA := Lib.hid ha
    have HB := Lib.hid hb
    have HT := Lib.hid h
    have HRW := Lib.hid (fun i (hi : i < T.length) => h.row i hi)
    have HTS := Lib.hid (fun k (hk : k < T.length) => take_snoc hk)
    have o0 : w.ownsRow w.heap.size 27 1 (.slice none 0 0) 0 [] := ⟨rfl, .inl ⟨rfl, rfl⟩⟩
    have R0 : Hid (RowsOwn w w.heap.size [] (T.take 0)) := Lib.hid ⟨rfl, fun j hj => absurd hj (by simp)⟩
    have P0 : Hid (Apt []) := Lib.hid (fun i j u v g _ h => by simp at h)
    have HSA := Lib.hid (fun K k (hk : k < ls.length) => splB_at (K := K) hk)
    have HSE := Lib.hid (fun K => splB_end (K := K) (ls := ls) (Nat.le_refl _))
    obtain ⟨n, hn⟩ : ∃ n, T.length = n := ⟨_, rfl⟩
    have HTA : Hid (T.take n = T) := Lib.hid (by rw [← hn, List.take_length])
    rw [hn] at HRW HTS hle ⊢
    have HN := Lib.hid hn
    clear ha hb h hn
    go_enter Try.func41, Try.ntmps41
    go_wp2
    go_loopw [6, 7] (fun v i wr => ∃ (k : Nat) (cs : List Value), k ≤ n ∧ i = .int .i64 k ∧ wr.ownsRow w.heap.size 27 1 v k cs ∧ Hid (RowsOwn wr w.heap.size cs (T.take k)) ∧ Hid (Apt cs) ∧ Below w.heap.size w wr) (fun _ i _ => n - (intOf i).toNat)
    case atStart => exact ⟨0, [], by omega, rfl, o0, R0, P0, b0⟩
    case round =>
      clear o0 R0 P0 b0
      obtain ⟨k, cs, hk, rfl, o0, HR, HP, b0⟩ := hrel
      obtain ⟨A2, c2, rfl⟩ := own_head o0
      by_cases hlt : k < n
      · have g1 : decide ((k : Int) < (n : Int)) = true := decide_eq_true (by omega)
        obtain ⟨bA, oA, hAe, hbA, hcs⟩ := (HA.out.below b0) (by have := HN.out; omega)
        subst hAe
        obtain ⟨Bk, cB, d1, hcB, i1⟩ := hcs k (by have := HN.out; omega)
        rw [HRW.out k hlt] at d1 hcB
        obtain ⟨b1, o1, rfl, hb1, f1⟩ := i1 (by rw [HRW.out k hlt]; omega)
        have hn1 := i1.news n
        rw [List.take_of_length_le (by rw [HRW.out k hlt]; omega)] at hn1
        have hn2 := iv_one (getl T k)
        have hl1 : (getl T k).length = n := HRW.out k hlt
        have HS1 := Lib.hid (HTS.out k hlt)
        generalize getl T k = X at *
        have HL1 := Lib.hid hl1
        have HN1 := Lib.hid hn1
        have HN2 := Lib.hid hn2
        have hb0 := b0.size
        have HO := Lib.hid o0
        clear hcs f1 hl1 i1 hn1 hn2 o0
        go_wp2_with (first
          | (at_builtin; refine wpList_append_own_at _ rfl _ _ 27 rfl wr.heap.size 3 i0 _ 1 8 Try.underlying27 hi hz0 hz1 hz2 rfl (by omega) (.slice none 0 0) 0 [] rfl ⟨by simp, .inl ⟨rfl, rfl⟩⟩ ⟨b1, o1, none⟩ n cB (iv X) rfl (by rw [iv_len, HL1.out]; try omega) HN1.out HN2.out (by unfold maxLen; omega) (by omega) (Nat.le_refl _) ?_; intro v1 w1 hown hg _ _; have b51 : Below wr.heap.size wr w1 := (Below.refl _ _).grown hg (Nat.le_refl _) (by simp [Value.ownBlock]); have O1 : w1.ownsRow wr.heap.size 3 1 v1 n (iv X) := (by simpa using hown); obtain ⟨A8, c8, rfl⟩ := own_head O1; have O3 := Lib.hid O1; have O4 := Lib.hid (HO.out.kept' b51); have hb2 := b51.size; clear hown hg O1)
          | (at_builtin; refine wpList_append_own_at _ rfl _ _ 22 rfl w.heap.size 27 k0 (.slice none 0 0) 1 24 Try.underlying22 ki kz0 kz1 kz2 rfl (by decide) _ _ _ rfl (O4.out.alloc _) ⟨w1.heap.size, 0, none⟩ 1 1 [.slice A8 n c8] rfl rfl (news_one (row_new rfl)) (by simp [Value.oneCell']) (by unfold maxLen; omega) (by omega) (by simp; omega) ?_; intro v9 w9 o9 hg9 _ _))
        have b9 := b0.trans ((b51.mono hb0).trans (app1' O4.out (by omega) hg9))
        have R9 : Hid (RowsOwn w9 w.heap.size (cs ++ [.slice A8 n c8]) (T.take k ++ [X])) := Lib.hid ((((HR.out.below b51).add (r := X) (by rw [HL1.out]; exact own_mono O3.out hb0)).below ((Below.refl _ _).alloc (Nat.le_refl _) _)).grown (O4.out.alloc _) (by decide) hg9)
        have P9 : Hid (Apt (cs ++ [.slice A8 n c8])) := Lib.hid (HP.out.add HR.out O3.out)
        go_roundw
        case rel => exact ⟨k + 1, _, by omega, by go_num, o9, Lib.hid (by rw [HS1.out]; exact R9.out), P9, b9⟩
        case measure => simp [intOf]; omega
      · have hkn : n = k := by omega
        subst hkn
        have g1 : decide ((n : Int) < (n : Int)) = false := decide_eq_false (by omega)
        rw [HTA.out] at HR
        have HO := Lib.hid o0
        have HI0 : Hid (splB T ls = splB T (ls.drop 0)) := Lib.hid (by rw [List.drop_zero])
        clear HTA HTS HA HRW o0
        go_wp2
        go_loopw [9] (fun v wr => ∃ (k : Nat) (K : List (List Int)), k ≤ ls.length ∧ v = .int .i64 k ∧ Hid (splB T ls = splB K (ls.drop k)) ∧ Hid (IsT K) ∧ Hid (K.length = n) ∧ Hid (RowsOwn wr w.heap.size cs K) ∧ Hid (wr.ownsRow w.heap.size 27 1 (.slice A2 n c2) n cs) ∧ Below w.heap.size w wr) (fun v _ => ls.length - (intOf v).toNat)
        case atStart => exact ⟨0, T, by omega, rfl, HI0, HT, HN, HR, HO, b0⟩
        case round =>
          clear HI0 HT HN HR HO b0
          obtain ⟨k, K, hk, rfl, HI0, HT, HN, HR, HO, b0⟩ := hrel
          by_cases hlt : k < ls.length
          · have g1 : decide ((k : Int) < (ls.length : Int)) = true := decide_eq_true (by omega)
            obtain ⟨b, o, hAe, hb, hc⟩ := HB.out (by omega)
            subst hAe
            obtain ⟨e1, Bx, dx, e2, i2, hl2⟩ := hc k hlt
            have HS1 := Lib.hid (by have := HSA.out K k hlt; exact this)
            have HI2 := Lib.hid i2
            clear hc i2
            generalize laW ls k = wt at *
            generalize laC ls k = xs at *
            have HE1 := Lib.hid (fun (V : World) (hV : Below w.heap.size w V) => (⟨(hV.cell (p := ⟨b, _, none⟩) hb).trans e1, (hV.cell (p := ⟨b, _, none⟩) hb).trans e2, HI2.out.below hV⟩ : V.cell? ⟨b, o + k * 2, none⟩ = some (.int .i64 wt) ∧ V.cell? ⟨b, o + k * 2 + 1, none⟩ = some (.slice Bx xs.length dx) ∧ IntsAt V Bx xs))
            clear e1 e2
            obtain ⟨e1, e2, -⟩ := HE1.out wr b0
            by_cases hw1 : wt < 1
            · have g2 : decide (wt < 1) = true := decide_eq_true hw1
              have HF2 : Hid (splA T ls = false) := Lib.hid (by rw [HF.out, HI0.out, HS1.out]; unfold layOk; rw [g2]; rfl)
              clear hw1
              go_wp2
              go_ret
              exact ⟨by rw [HF2.out]; rfl, b0⟩
            · have g2 : decide (wt < 1) = false := decide_eq_false hw1
              have HCo := Lib.hid (refColumns_any Bx dx xs n wr hle hl2 (HI2.out.below b0))
              cases hco : colsOk n xs
              · have HF2 : Hid (splA T ls = false) := Lib.hid (by rw [HF.out, HI0.out, HS1.out]; unfold layOk; rw [HN.out, g2, hco]; rfl)
                rw [hco] at HCo
                clear hw1 hco
                go_wp2_with (go_at_call 61; refine HCo.out.mono ?_; rintro e w2 ⟨rfl, b2⟩; replace b0 := b0.trans (b2.mono b0.size))
                go_ret
                exact ⟨by rw [HF2.out]; rfl, b0⟩
              · rw [hco] at HCo
                have hcoK : colsOk K.length xs = true := by rw [HN.out]; exact hco
                have HXL := Lib.hid (cols_len hco)
                have HAT := Lib.hid (fun j (hj : j < n) => cols_at hco (r := j) hj)
                have HSL := Lib.hid (fun i => subP_len K wt xs i)
                have HSR := Lib.hid (fun i (hi : i ≤ n) r (hr : r < n) => (show (getl (subP K wt xs i) r).length = n by have := subP_row HT.out.row wt xs i (by rw [HN.out]; exact hi) r (by rw [HN.out]; exact hr); rwa [HN.out] at this))
                have HSO := Lib.hid (fun i (hi : i < n) => subP_own (wt := wt) HT.out.row hcoK (k := i) (by rw [HN.out]; exact hi))
                have HSS : Hid (∀ i, i < n → setT (subP K wt xs i) i (geti xs i).toNat (gat K i (geti xs i).toNat - wt) = subP K wt xs (i + 1)) := Lib.hid (fun i hi => by
                  show _ = setT (subP K wt xs i) i (geti xs i).toNat (gat (subP K wt xs i) i (geti xs i).toNat - wt)
                  rw [HSO.out i hi])
                have HBD := Lib.hid (fun r c => HT.out.bd r c)
                have HNO : Hid (∀ i, i < n → gat K i (geti xs i).toNat < wt → splA T ls = false) := Lib.hid (fun i hi h => by
                  rw [HF.out, HI0.out, HS1.out]; unfold layOk; rw [HN.out, g2, hco, brs_no hi h]; rfl)
                have HYS := Lib.hid (fun i h0 h => brs_yes (K := K) (wt := wt) (xs := xs) (k := i) h0 h)
                have HND : Hid (brs K wt xs n = true → splB T ls = splB (subP K wt xs n) (ls.drop (k + 1)) ∧ IsT (subP K wt xs n) ∧ (subP K wt xs n).length = n) := Lib.hid (fun hb => by
                  have hb2 : brs K wt xs K.length = true := by rw [HN.out]; exact hb
                  refine ⟨?_, subP_isT HT.out (by omega) hcoK hb2 (by rw [HN.out]; exact Nat.le_refl _), by rw [subP_len, HN.out]⟩
                  rw [HI0.out, HS1.out]; unfold layOk; rw [HN.out, g2, hco, hb]; rfl)
                have HG0 : Hid (brs K wt xs 0 = true) := Lib.hid rfl
                have HW1 : Hid (1 ≤ wt) := Lib.hid (by omega)
                clear hw1 hco hcoK
                have HRb := Lib.hid (fun (V : World) (hV : Below wr.heap.size wr V) => HR.out.below hV)
                have HOb := Lib.hid (fun (V : World) (hV : Below wr.heap.size wr V) => HO.out.kept' hV)
                go_wp2_with (go_at_call 61; refine HCo.out.mono ?_; rintro e w2 ⟨rfl, b2⟩; have HR2 : Hid (RowsOwn w2 w.heap.size cs (subP K wt xs 0)) := Lib.hid (HRb.out _ b2); have HO2 := Lib.hid (HOb.out _ b2); have hbw := b0.size; replace b0 := b0.trans (b2.mono hbw); clear HCo b2 HRb HOb HR HO)
                go_loopw [10] (fun v wr2 => ∃ i : Nat, i ≤ n ∧ v = .int .i64 i ∧ Hid (brs K wt xs i = true) ∧ Hid (RowsOwn wr2 w.heap.size cs (subP K wt xs i)) ∧ Hid (wr2.ownsRow w.heap.size 27 1 (.slice A2 n c2) n cs) ∧ Below w.heap.size w wr2) (fun v _ => n - (intOf v).toNat)
                case atStart => exact ⟨0, by omega, rfl, HG0, HR2, HO2, b0⟩
                case round =>
                  clear HG0 HR2 HO2 b0 e1 e2 hbw
                  obtain ⟨i, hi, rfl, HG, HR, HO, b0⟩ := hrel
                  obtain ⟨e1, e2, i2⟩ := HE1.out wr b0
                  by_cases hin : i < n
                  · have g3 : decide ((i : Int) < (n : Int)) = true := decide_eq_true (by omega)
                    obtain ⟨bx, ox, rfl, -, f1⟩ := i2 (by rw [HXL.out]; omega)
                    have e3 := f1 i (by rw [HXL.out]; exact hin)
                    obtain ⟨hx0, hx1⟩ := HAT.out i hin
                    have HNO1 := Lib.hid (HNO.out i hin)
                    have HYS1 := Lib.hid (HYS.out i HG.out)
                    have HSS1 := Lib.hid (HSS.out i hin)
                    have HSO1 := Lib.hid (HSO.out i hin)
                    have hbd := HBD.out i (geti xs i).toNat
                    have hxi : i < xs.length := by rw [HXL.out]; exact hin
                    clear f1 i2
                    generalize geti xs i = x at *
                    obtain ⟨X, rfl⟩ : ∃ X : Nat, x = X := ⟨x.toNat, by omega⟩
                    rw [Int.toNat_natCast] at hbd HNO1 HYS1 HSS1 HSO1
                    have hXn : X < n := by omega
                    obtain ⟨g, cg, cur, hcs, hgB, hgh, hcell, hfz, HPUT⟩ := HR.out.put HP.out (r := i) (k := X) (by rw [HSL.out, HN.out]; exact hin) (by rw [HSR.out i hi i hin]; exact hXn)
                    rw [HSR.out i hi i hin] at hcs
                    rw [show geti (getl (subP K wt xs i) i) X = gat K i X from HSO1.out] at hcell
                    obtain ⟨gm, cm, e10, hgm, hgl, hcm⟩ := own_frm HO.out (by omega)
                    injection e10 with e11 e12 e13
                    subst e11 e13
                    have er := hcm i _ hcs
                    have HP1 := Lib.hid (HPUT (gat K i X - wt))
                    have HF1 := Lib.hid (fun y : Int => own_far_t (k := X) (v := .int .i64 y) HO.out (by decide) hgh)
                    obtain ⟨hy0, hy9⟩ := hbd
                    have hw1 := HW1.out
                    have HCC := Lib.hid hcs
                    clear hcs hcm hgh HPUT e12 cur
                    generalize gat K i X = y at *
                    by_cases hyw : y < wt
                    · have g4 : decide (y < wt) = true := decide_eq_true hyw
                      have HF2 := Lib.hid (HNO1.out hyw)
                      clear hyw
                      go_wp2
                      refine wp_region_quiet_lit (by kernel_rfl) (by kernel_rfl) ?_
                      repeat go_big_quiet_step ((fail))
                      refine wpQuiet_nil ?_
                      rintro _ ⟨nq, rfl⟩
                      go_wp2
                      go_ret
                      exact ⟨by rw [HF2.out]; rfl, b0.trans (by first | exact below_drewN _ | (rw [World.drewN_drewN]; exact below_drewN _))⟩
                    · have g4 : decide (y < wt) = false := decide_eq_false hyw
                      have hwy : wt ≤ y := by omega
                      have HG2 := Lib.hid (HYS1.out hwy)
                      clear hyw HP1 HF1
                      go_wp2
                      refine wp_region_quiet_lit (by kernel_rfl) (by kernel_rfl) ?_
                      repeat go_big_quiet_step ((fail))
                      refine wpQuiet_nil ?_
                      rintro _ ⟨nq, rfl⟩
                      go_wp2
                      refine wp_region_quiet_tail 13 (by kernel_rfl) (by kernel_rfl) ?_
                      simp only [List.take_succ_cons, List.take_zero, List.drop_succ_cons, List.drop_zero]
                      repeat go_big_quiet_step ((fail))
                      refine wpQuiet_nil ?_
                      rintro _ ⟨nq, rfl⟩
                      go_wp2
                      generalize hq : World.drewN wr _ = U
                      have bU : Below w.heap.size wr U := by rw [← hq]; exact below_drewN _
                      have HR5 : RowsOwn U w.heap.size cs (subP K wt xs i) := by rw [← hq]; exact HR.out.below (below_drewN _)
                      have HO5 : U.ownsRow w.heap.size 27 1 (.slice (some ⟨gm, 0, none⟩) n c2) n cs := by rw [← hq]; exact HO.out.kept' (below_drewN _)
                      obtain ⟨g', cg', cur, hcs', -, hgh, -, -, HPUT⟩ := HR5.put HP.out (r := i) (k := X) (by rw [HSL.out, HN.out]; exact hin) (by rw [HSR.out i hi i hin]; exact hXn)
                      rw [HSR.out i hi i hin] at hcs'
                      have hee := HCC.out.symm.trans hcs'
                      injection hee with q1
                      injection q1 with q1 q2 q3
                      injection q1 with q1
                      injection q1 with q1
                      subst q1
                      have hfin := HPUT (y - wt)
                      rw [HSS1.out] at hfin
                      exact ⟨⟨i + 1, by omega, by go_num, HG2, Lib.hid hfin, Lib.hid (own_far_t HO5 (by decide) hgh), (b0.trans bU).setCell (by dsimp only; omega) _⟩, by simp [intOf]; omega⟩
                  · have hin2 : n = i := by omega
                    subst hin2
                    have g3 : decide ((n : Int) < (n : Int)) = false := decide_eq_false (by omega)
                    obtain ⟨N1, N2, N3⟩ := HND.out HG.out
                    have HN1 := Lib.hid N1
                    have HN2 := Lib.hid N2
                    have HN3 := Lib.hid N3
                    clear N1 N2 N3
                    go_wp2
                    exact ⟨⟨k + 1, subP K wt xs n, by omega, by go_num, HN1, HN2, HN3, HR, HO, b0⟩, by simp [intOf]; omega⟩
          · obtain rfl : k = ls.length := by omega
            have g1 : decide ((ls.length : Int) < (ls.length : Int)) = false := decide_eq_false (by omega)
            have HZ : Hid (splA T ls = zerB K) := Lib.hid (by rw [HF.out, HI0.out, HSE.out])
            have CK := Lib.hid (rows_at HR.out HO.out)
            have HZ0 : Hid (∀ r c, r < n → c < n → gat K r c ≠ 0 → zerB K = false) := Lib.hid (fun r c hr hc hne => by
              rw [← Bool.not_eq_true]
              intro hz
              unfold zerB at hz
              simp only [List.all_eq_true, List.mem_range, decide_eq_true_eq] at hz
              exact hne (hz r (by rw [HN.out]; exact hr) c (by rw [HN.out]; exact hc)))
            have HZ1 : Hid ((∀ r, r < n → ∀ c, c < n → gat K r c = 0) → zerB K = true) := Lib.hid (fun h => by
              unfold zerB
              simp only [List.all_eq_true, List.mem_range, decide_eq_true_eq, HN.out]
              exact h)
            have HRW := Lib.hid (fun i (hi : i < n) => (show (getl K i).length = n by have := HT.out.row i (by rw [HN.out]; exact hi); rwa [HN.out] at this))
            have HA0 : Hid (∀ r, r < 0 → ∀ c, c < n → gat K r c = 0) := Lib.hid (fun r hr => absurd hr (by omega))
            clear HI0 HF HR HO HSA HSE HT HB HP
            go_wp2
            obtain ⟨W, hW⟩ : ∃ W, W = wr := ⟨_, rfl⟩
            subst hW
            go_loopw [13] (fun v wr2 => ∃ i m : Nat, i ≤ n ∧ v = .int .i64 i ∧ Hid (∀ r, r < i → ∀ c, c < n → gat K r c = 0) ∧ wr2 = W.drewN m) (fun v _ => n - (intOf v).toNat)
            case atStart => exact ⟨0, 0, by omega, rfl, HA0, rfl⟩
            case round =>
              clear HA0
              obtain ⟨i, m, hi, rfl, HAZ, rfl⟩ := hrel
              by_cases hin : i < n
              · have g2 : decide ((i : Int) < (n : Int)) = true := decide_eq_true (by omega)
                obtain ⟨bA, oA, hAe, -, hcs⟩ := CK.out (by rw [HN.out]; omega)
                subst hAe
                obtain ⟨Bi, ci, d1, i1⟩ := hcs i (by rw [HN.out]; exact hin)
                rw [HRW.out i hin] at d1
                obtain ⟨bi, oi, rfl, -, f1⟩ := i1 (by rw [HRW.out i hin]; omega)
                have HFI := Lib.hid (fun q (hq : q < n) => (show W.cell? ⟨bi, oi + q, none⟩ = some (.int .i64 (gat K i q)) from f1 q (by rw [HRW.out i hin]; exact hq)))
                have HC0 : Hid (∀ c, c < 0 → gat K i c = 0) := Lib.hid (fun c hc => absurd hc (by omega))
                have HZI := Lib.hid (fun q (hq : q < n) => HZ0.out i q hin hq)
                clear hcs f1 i1
                go_wp2
                go_loopw [14] (fun v wr3 => ∃ q m : Nat, q ≤ n ∧ v = .int .i64 q ∧ Hid (∀ c, c < q → gat K i c = 0) ∧ wr3 = W.drewN m) (fun v _ => n - (intOf v).toNat)
                case atStart => exact ⟨0, m, by omega, rfl, HC0, rfl⟩
                case round =>
                  clear HC0
                  obtain ⟨q, m2, hq, rfl, HCZ, rfl⟩ := hrel
                  by_cases hqn : q < n
                  · have g3 : decide ((q : Int) < (n : Int)) = true := decide_eq_true (by omega)
                    have e3 := HFI.out q hqn
                    have HZQ := Lib.hid (HZI.out q hqn)
                    have HCS : Hid (gat K i q = 0 → ∀ c, c < q + 1 → gat K i c = 0) := Lib.hid (fun h c hc => by
                      by_cases e : c = q
                      · subst e; exact h
                      · exact HCZ.out c (by omega))
                    generalize gat K i q = x at *
                    by_cases hx : x = 0
                    · have g4 : (x != 0) = false := by simp [hx]
                      have HCX := Lib.hid (HCS.out hx)
                      clear hx
                      go_wp2
                      first
                        | (go_quiet (fail); go_wp2; go_roundw)
                        | go_roundw
                      case rel => exact ⟨q + 1, _, by omega, by go_num, HCX, by first | rfl | exact World.drewN_drewN _ _ _⟩
                      case measure => simp [intOf]; omega
                    · have g4 : (x != 0) = true := by rw [bne_iff_ne]; exact hx
                      have HFX := Lib.hid (HZQ.out hx)
                      clear hx
                      go_wp2
                      first
                        | (go_quiet (fail); go_wp2; go_ret)
                        | go_ret
                      exact ⟨by rw [HZ.out, HFX.out]; rfl, b0.trans (by first | exact below_drewN _ | (rw [World.drewN_drewN]; exact below_drewN _))⟩
                  · obtain rfl : q = n := by omega
                    have g3 : decide ((q : Int) < (q : Int)) = false := decide_eq_false (by omega)
                    have HAX : Hid (∀ r, r < i + 1 → ∀ c, c < q → gat K r c = 0) := Lib.hid (fun r hr c hc => by
                      by_cases e : r = i
                      · subst e; exact HCZ.out c hc
                      · exact HAZ.out r (by omega) c hc)
                    go_wp2
                    exact ⟨⟨i + 1, m2, by omega, by go_num, HAX, rfl⟩, by simp [intOf]; omega⟩
              · obtain rfl : i = n := by omega
                have g2 : decide ((i : Int) < (i : Int)) = false := decide_eq_false (by omega)
                have HFX := Lib.hid (HZ1.out HAZ.out)
                go_wp2
                go_ret
                exact ⟨by rw [HZ.out, HFX.out]; rfl, b0.trans (below_drewN _)⟩
  · have g0 : decide (100 < (ls.length : Int)) = true := decide_eq_true (by omega)
    have HF : Hid (splA T ls = false) := Lib.hid (by unfold splA; rw [decide_eq_false hl]; rfl)
    clear ha h hb
    go_enter Try.func41, Try.ntmps41
    go_wp2
    go_ret
    exact ⟨by rw [HF.out]; rfl, b0⟩
end Go.Proofs.Ytnnaaoobdofooaa
