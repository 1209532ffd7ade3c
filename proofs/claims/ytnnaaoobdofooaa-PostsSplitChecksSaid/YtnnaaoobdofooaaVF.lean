/- The law's copy of layers. -/
import Derived.Test.YtnnaaoobdofooaaVD
import Derived.Test.YtnnaaoobdofooaaTF
namespace Go.Proofs.Ytnnaaoobdofooaa
open Go.RowKit
set_option maxHeartbeats 1000000
set_option maxRecDepth 100000
/-- Layers as they come in. -/
def LaysIn (w : World) (A : Option Addr) (ls : List Lay) : Prop :=
  0 < ls.length → ∃ b o, A = some ⟨b, o, none⟩ ∧ b < w.heap.size ∧ ∀ i, i < ls.length → w.cell? ⟨b, o + i * 2, none⟩ = some (.int .i64 (laW ls i)) ∧ ∃ B c, w.cell? ⟨b, o + i * 2 + 1, none⟩ = some (.slice B (laC ls i).length c) ∧ (laC ls i).length ≤ c ∧ c ≤ maxLen ∧ IntsAt w B (laC ls i)
theorem LaysIn.below {w w' : World} {A : Option Addr} {ls : List Lay} (h : LaysIn w A ls) (k : Below w.heap.size w w') : LaysIn w' A ls := fun hp => by
  obtain ⟨b, o, e, hb, hc⟩ := h hp
  refine ⟨b, o, e, Nat.lt_of_lt_of_le hb k.size, fun i hi => ?_⟩
  obtain ⟨h1, B, c, h2, h3, h4, h5⟩ := hc i hi
  exact ⟨(k.cell (p := ⟨b, _, none⟩) hb).trans h1, B, c, (k.cell (p := ⟨b, _, none⟩) hb).trans h2, h3, h4, h5.below k⟩
/-- Layers as cells. -/
def lcs (ps : List (Int × Value)) : List Value := ps.flatMap fun p => [.int .i64 p.1, p.2]
theorem lcs_len (ps : List (Int × Value)) : (lcs ps).length = ps.length * 2 := by
  induction ps with
  | nil => rfl
  | cons p ps ih =>
    show (([.int .i64 p.1, p.2] : List Value) ++ lcs ps).length = _
    rw [List.length_append, ih, List.length_cons]
    simp; omega
theorem lcs_snoc (ps : List (Int × Value)) (a : Int) (v : Value) : lcs (ps ++ [(a, v)]) = lcs ps ++ [.int .i64 a, v] := by
  unfold lcs; rw [List.flatMap_append]; rfl
theorem lcs_at (ps : List (Int × Value)) : ∀ k, k < ps.length → (lcs ps)[k * 2]? = some (.int .i64 (geti (ps.map (·.1)) k)) ∧ (lcs ps)[k * 2 + 1]? = (ps.map (·.2))[k]? := by
  induction ps with
  | nil => intro k h; exact absurd h (by simp)
  | cons p ps ih =>
    intro k h
    have e : lcs (p :: ps) = .int .i64 p.1 :: p.2 :: lcs ps := rfl
    cases k with
    | zero => exact ⟨rfl, rfl⟩
    | succ k =>
      have h2 := ih k (by simpa using h)
      rw [e, show (k + 1) * 2 = k * 2 + 1 + 1 by omega]
      exact h2
/-- So many layers, cut. -/
def lyR (ls : List Lay) (k : Nat) : List Lay := (ls.take k).map fun l => (l.1, l.2.take 12)
theorem lyR_len {ls : List Lay} {k : Nat} (h : k ≤ ls.length) : (lyR ls k).length = k := by unfold lyR; rw [List.length_map, List.length_take]; omega
theorem la_eq {ls : List Lay} {k : Nat} (h : k < ls.length) : laW ls k = ls[k].1 ∧ laC ls k = ls[k].2 := by
  unfold laW laC
  rw [List.getD_eq_getElem?_getD, List.getElem?_eq_getElem h]
  exact ⟨rfl, rfl⟩
theorem lyR_snoc {ls : List Lay} {k : Nat} (h : k < ls.length) : lyR ls (k + 1) = lyR ls k ++ [(laW ls k, (laC ls k).take 12)] := by
  obtain ⟨h1, h2⟩ := la_eq h
  rw [h1, h2]
  unfold lyR
  rw [List.take_add_one, List.getElem?_eq_getElem h, List.map_append]
  rfl
theorem info69 : (Try.prog.info? 69).map (fun i => (i.zero, i.size, i.bytes)) = some (some (.agg #[.int .i64 0, .slice none 0 0]), 2, 32) := by kernel_rfl
theorem layers_any (A : Option Addr) (c : Nat) (ls : List Lay) (w : World) (_hx : ls.length ≤ maxLen) (ha : LaysIn w A ls) :
    Calls Try.prog 42 #[.slice A ls.length c] w fun e w' => ∃ v ps, e = .returned v ∧ w'.ownsRow w.heap.size 69 2 v (min ls.length 101) (lcs ps) ∧ ps.map (·.1) = (lyR ls (min ls.length 101)).map (·.1) ∧ RowsOwn w' w.heap.size (ps.map (·.2)) ((lyR ls (min ls.length 101)).map (·.2)) ∧ Below w.heap.size w w' := by
  obtain ⟨k0, ki, kz0, kz1, kz2⟩ := info_parts info69
  have HA := Lib.hid ha
  have o0 : w.ownsRow w.heap.size 69 2 (.slice none 0 0) 0 (lcs []) := ⟨rfl, .inl ⟨rfl, rfl⟩⟩
  have R0 : Hid (RowsOwn w w.heap.size ([] : List Value) ((lyR ls 0).map (·.2))) := Lib.hid ⟨rfl, fun j hj => absurd hj (by simp [lyR])⟩
  have b0 := Below.refl w.heap.size w
  have HTS := Lib.hid (fun k (hk : k < ls.length) => lyR_snoc hk)
  obtain ⟨n, hn⟩ : ∃ n, min ls.length 101 = n := ⟨_, rfl⟩
  rw [hn]
  have hn1 : n ≤ ls.length := by omega
  have hn2 : n ≤ 101 := by omega
  have HNE : Hid (∀ k, k ≤ n → ¬ k < n → ¬ (k < ls.length ∧ k ≤ 100)) := Lib.hid (fun k h1 h2 => by omega)
  clear ha hn
  go_enter Try.func42, Try.ntmps42
  go_wp2
  go_loopw [3, 4] (fun v i wr => ∃ (k : Nat) (ps : List (Int × Value)), k ≤ n ∧ i = .int .i64 k ∧ wr.ownsRow w.heap.size 69 2 v k (lcs ps) ∧ Hid (ps.map (·.1) = (lyR ls k).map (·.1)) ∧ Hid (RowsOwn wr w.heap.size (ps.map (·.2)) ((lyR ls k).map (·.2))) ∧ Below w.heap.size w wr) (fun _ i _ => n - (intOf i).toNat)
  case atStart => exact ⟨0, [], by omega, rfl, o0, Lib.hid rfl, R0, b0⟩
  case round =>
    clear o0 R0 b0
    obtain ⟨k, ps, hk, rfl, o0, HW, HR, b0⟩ := hrel
    obtain ⟨A2, c2, rfl⟩ := own_head2 o0
    by_cases hlt : k < n
    · have g1 : decide ((k : Int) < (ls.length : Int)) = true := decide_eq_true (by omega)
      have g2 : decide ((k : Int) ≤ 100) = true := decide_eq_true (by omega)
      obtain ⟨b, o, hAe, hb, hcs⟩ := HA.out (by omega)
      subst hAe
      obtain ⟨d1, B, cB, d2, h3, h4, h2⟩ := hcs k (by omega)
      have HLC : Hid (∀ V : World, Below w.heap.size w V → Calls Try.prog 34 #[.slice B (laC ls k).length cB] V (Copied 3 1 (iv ((laC ls k).take 12)) V)) := Lib.hid (fun V hV => list_copy_any B cB (laC ls k) V h3 h4 (h2.below hV))
      have HO := Lib.hid o0
      have hsz := b0.size
      have HTK := Lib.hid (HTS.out k (by omega))
      have z0 : Below w.heap.size w wr.drew := b0.drew
      have KS : Hid (∀ V : World, Below w.heap.size w V → V.cell? ⟨b, o + k * 2, none⟩ = some (.int .i64 (laW ls k)) ∧ V.cell? ⟨b, o + k * 2 + 1, none⟩ = some (.slice B (laC ls k).length cB)) := Lib.hid (fun V hV => ⟨(hV.cell (p := ⟨b, _, none⟩) hb).trans d1, (hV.cell (p := ⟨b, _, none⟩) hb).trans d2⟩)
      clear hcs h2 h3 h4 o0 d1 d2
      generalize (laC ls k).take 12 = r at *
      generalize (laC ls k).length = cl at *
      generalize laW ls k = wt at *
      have HPS := Lib.hid (fun v => lcs_snoc ps wt v)
      go_wp2
      go_region_held3 (fun w' => w'.cell? ⟨b, o + k * 2, none⟩ = some (.int .i64 wt) ∧ w'.cell? ⟨b, o + k * 2 + 1, none⟩ = some (.slice B cl cB)) (first | assumption | exact KS.out _ z0 | exact KS.out _ z5 | exact KS.out _ (z5.alloc z5.size _) | exact KS.out _ z9) ((first
        | ((with_reducible refine (HLC.out _ z0).mono ?_); rintro e w5 ⟨v5, n5, rfl, o5, b5⟩; obtain ⟨A5, c5, rfl, hn5, -, -⟩ := own_intsI o5; subst hn5; have z5 := z0.trans (b5.mono z0.size); have O5 := HO.out.drew.kept' b5; have hb5 := z5.size)
        | (refine step_append_own_at rfl (.tmp 15) (.tmp 28) 56 rfl w.heap.size 69 k0 (.agg #[.int .i64 0, .slice none 0 0]) 2 32 Try.underlying56 ki kz0 kz1 kz2 rfl (by decide) _ k _ rfl (O5.alloc _) ⟨w5.heap.size, 0, none⟩ 1 1 [.int .i64 wt, .slice A5 r.length c5] rfl rfl ?_ ?_ ?_ ?_ ?_ ?_; exact news_two (row_new rfl); simp [Value.oneCell']; (unfold maxLen; omega); omega; (simp; omega); intro v9 w9 o9 hg9; have z9 := z5.trans (app1' O5 hb5 hg9))))
      have HWX : Hid ((ps ++ [(wt, Value.slice A5 r.length c5)]).map (·.1) = (lyR ls (k + 1)).map (·.1)) := Lib.hid (by rw [HTK.out, List.map_append, List.map_append, HW.out]; rfl)
      have RX : Hid (RowsOwn w9 w.heap.size ((ps ++ [(wt, Value.slice A5 r.length c5)]).map (·.2)) ((lyR ls (k + 1)).map (·.2))) := Lib.hid (by
        rw [HTK.out, List.map_append, List.map_append]
        exact (((HR.out.below (Below.refl _ _).drew).below b5).add (r := r) (own_mono o5 z0.size) |>.below ((Below.refl _ _).alloc (Nat.le_refl _) _)).grown (O5.alloc _) (by decide) hg9)
      rw [← HPS.out] at o9
      go_wp2
      go_roundw
      case rel => exact ⟨k + 1, _, by omega, by go_num, o9, HWX, RX, z9⟩
      case measure => simp [intOf]; omega
    · have hcase := HNE.out k hk hlt
      obtain rfl : k = n := by omega
      clear HNE hlt
      by_cases hL : k < ls.length
      · have g1 : decide ((k : Int) < (ls.length : Int)) = true := decide_eq_true (by omega)
        have g2 : decide ((k : Int) ≤ 100) = false := decide_eq_false (by omega)
        clear hcase
        go_wp2
        go_ret
        exact ⟨_, _, rfl, o0, HW.out, HR.out, b0⟩
      · have g1 : decide ((k : Int) < (ls.length : Int)) = false := decide_eq_false (by omega)
        clear hcase
        go_wp2
        go_ret
        exact ⟨_, _, rfl, o0, HW.out, HR.out, b0⟩
end Go.Proofs.Ytnnaaoobdofooaa
