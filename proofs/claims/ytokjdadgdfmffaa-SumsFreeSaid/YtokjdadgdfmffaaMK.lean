/- Tables that come in, and copied. -/
import Derived.Test.YtokjdadgdfmffaaKR
import Derived.Test.YtokjdadgdfmffaaLK
import Derived.Deep.Matrix
namespace Go.Proofs.Ytokjdadgdfmffaa
open Go.ChangeShapes Go.WideShapes Go.ChangeAt Go.RowKit Go.Deep
set_option maxHeartbeats 2000000
set_option maxRecDepth 100000
def RowsIn (w : World) (A : Option Addr) (L : List (List Int)) : Prop :=
  0 < L.length → ∃ b o, A = some ⟨b, o, none⟩ ∧ b < w.heap.size ∧ ∀ i, i < L.length → ∃ B c, w.cell? ⟨b, o + i, none⟩ = some (.slice B (getl L i).length c) ∧ (getl L i).length ≤ c ∧ c ≤ maxLen ∧ IntsAt w B (getl L i)
theorem RowsIn.below {w w' : World} {A : Option Addr} {L : List (List Int)} (h : RowsIn w A L) (hg : Below w.heap.size w w') : RowsIn w' A L := fun hp => by
  obtain ⟨b, o, e, hb, hc⟩ := h hp
  refine ⟨b, o, e, Nat.lt_of_lt_of_le hb hg.size, fun i hi => ?_⟩
  obtain ⟨B, c, h1, h3, h4, h2⟩ := hc i hi
  exact ⟨B, c, (hg.cell (p := ⟨b, _, none⟩) hb).trans h1, h3, h4, h2.below hg⟩
/-- So many rows, cut. -/
def tbR (L : List (List Int)) (k : Nat) : List (List Int) := (L.take k).map fun l => l.take 3
theorem tbR_len {L : List (List Int)} {k : Nat} (h : k ≤ L.length) : (tbR L k).length = k := by unfold tbR; rw [List.length_map, List.length_take]; omega
theorem tbR_snoc {L : List (List Int)} {k : Nat} (h : k < L.length) : tbR L (k + 1) = tbR L k ++ [(getl L k).take 3] := by
  unfold tbR getl
  rw [List.take_add_one, List.getElem?_eq_getElem h, List.map_append, List.getD_eq_getElem?_getD, List.getElem?_eq_getElem h]
  rfl

section
variable {H : Type} {enc : TypeId × Value → H} {P : Program} {W W' : World}
theorem Try.cells22 : Try.prog.cellsOf 22 = 1 := by kernel_rfl
/-- A table that comes in, as lists. -/
theorem open_rows {r : Reach} {b0 : Nat} {v : Value} {d : DataW H} {p : List MemPlace} (hv : Value.okWide Try.prog W r b0 23 v) (h : DataW.Trod enc Try.prog W 0 (fun _ => true) true 23 v d p) :
    ∃ A c L, v = .slice A L.length c ∧ L.length ≤ c ∧ c ≤ maxLen ∧ RowsIn W A L := by
  obtain ⟨A, l, c, rfl⟩ := okWide_slice Try.underlying23 hv
  obtain ⟨fuel, hf⟩ := h
  rcases Go.Deep.open_int_rows Try.underlying23 Try.underlying22 Try.underlying3 Try.cells22 Try.cells3 hf with ⟨hcs, _⟩ | ⟨a, len, cap, Ar, Ln, Cp, Z, hcs, _, hl, hm, _, hx⟩
  · simp [Value.cells] at hcs
    obtain ⟨rfl, rfl, rfl⟩ := hcs
    exact ⟨none, 0, [], rfl, by simp, by simp, fun h => absurd h (by simp)⟩
  · simp [Value.cells] at hcs
    obtain ⟨rfl, rfl, rfl⟩ := hcs
    have hlen : ((List.range l).map fun r => (Z r).take (Ln r)).length = l := by simp
    refine ⟨some a, c, (List.range l).map fun r => (Z r).take (Ln r), by rw [hlen], by omega, hm, fun hp => ?_⟩
    rw [hlen] at hp
    have g0 := (hx 0 (by omega)).1
    have hsp : a.spot = none := by
      have := World.cell?_spot g0
      simpa [Addr.add] using this
    obtain ⟨b, o, sp⟩ := a
    dsimp only at hsp
    subst hsp
    refine ⟨b, o, rfl, by have := cell_lt g0; simpa [Addr.add] using this, fun i hi => ?_⟩
    rw [hlen] at hi
    obtain ⟨h1, h2, h3, h4, _, h6, h7⟩ := hx i (by omega)
    have hg : getl ((List.range l).map fun r => (Z r).take (Ln r)) i = (Z i).take (Ln i) := by
      unfold getl
      rw [List.getD_eq_getElem?_getD, List.getElem?_map, List.getElem?_range hi]; rfl
    have hgl : ((Z i).take (Ln i)).length = Ln i := by rw [List.length_take]; omega
    rw [hg, hgl]
    rw [WideShapes.add_plain] at h1
    refine ⟨Ar i, Cp i, h1, h2, h3, fun hp2 => ?_⟩
    rw [hgl] at hp2
    cases hA : Ar i with
    | none => have := h6 hA; omega
    | some a' =>
      have h8 := (h7 a' hA).2
      have k0 := h8 0 (by omega)
      have hsp2 : a'.spot = none := by
        have := World.cell?_spot k0
        simpa [Addr.add] using this
      obtain ⟨b', o', sp'⟩ := a'
      dsimp only at hsp2
      subst hsp2
      refine ⟨b', o', rfl, by have := cell_lt k0; simpa [Addr.add] using this, fun j hj => ?_⟩
      rw [hgl] at hj
      have := h8 j (by omega)
      rw [WideShapes.add_plain] at this
      rw [this, geti_take _ _ _ hj]; rfl
end
theorem own_headL {W : World} {B n z : Nat} {t : TypeId} {v : Value} {cs : List Value} (h : W.ownsRow B t z v n cs) : ∃ A c, v = .slice A n c := by
  rcases h.2 with ⟨rfl, rfl⟩ | ⟨g, cap, cur, rfl, _⟩
  · exact ⟨none, 0, rfl⟩
  · exact ⟨_, _, rfl⟩
theorem table_any (A : Option Addr) (c : Nat) (L : List (List Int)) (w : World) (_hx : L.length ≤ maxLen) (ha : RowsIn w A L) :
    Calls Try.prog 15 #[.slice A L.length c] w fun e w' => ∃ A' c' cs, e = .returned (.slice A' (min L.length 61) c') ∧ w'.ownsRow w.heap.size 22 1 (.slice A' (min L.length 61) c') (min L.length 61) cs ∧ RowsOwn w' w.heap.size cs (tbR L (min L.length 61)) ∧ Below w.heap.size w w' := by
  obtain ⟨k0, ki, kz0, kz1, kz2⟩ := info_parts info22
  obtain ⟨j0, ji, jz0, jz1, jz2⟩ := info_parts info3
  have HA := Lib.hid ha
  have o0 : w.ownsRow w.heap.size 22 1 (.slice none 0 0) 0 [] := ⟨rfl, .inl ⟨rfl, rfl⟩⟩
  have R0 : Hid (RowsOwn w w.heap.size [] (tbR L 0)) := Lib.hid ⟨rfl, fun j hj => absurd hj (by simp [tbR])⟩
  have b0 := Below.refl w.heap.size w
  have HTS := Lib.hid (fun k (hk : k < L.length) => tbR_snoc hk)
  obtain ⟨n, hn⟩ : ∃ n, min L.length 61 = n := ⟨_, rfl⟩
  rw [hn]
  have hn1 : n ≤ L.length := by omega
  have hn2 : n ≤ 61 := by omega
  have HNE : Hid (∀ k, k ≤ n → ¬ k < n → ¬ (k < L.length ∧ k ≤ 60)) := Lib.hid (fun k h1 h2 => by omega)
  clear ha hn
  go_enter Try.func15, Try.ntmps15
  go_wp2
  go_loopw [3, 4] (fun v i wr => ∃ (k : Nat) (cs : List Value), k ≤ n ∧ i = .int .i64 k ∧ wr.ownsRow w.heap.size 22 1 v k cs ∧ Hid (RowsOwn wr w.heap.size cs (tbR L k)) ∧ Below w.heap.size w wr) (fun _ i _ => n - (intOf i).toNat)
  case atStart => exact ⟨0, [], by omega, rfl, o0, R0, b0⟩
  case round =>
    clear o0 R0 b0
    obtain ⟨k, cs, hk, rfl, o0, HR, b0⟩ := hrel
    obtain ⟨A2, c2, rfl⟩ := own_headL o0
    by_cases hlt : k < n
    · have g1 : decide ((k : Int) < (L.length : Int)) = true := decide_eq_true (by omega)
      have g2 : decide ((k : Int) ≤ 60) = true := decide_eq_true (by omega)
      obtain ⟨b, o, hAe, hb, hcs⟩ := HA.out (by omega)
      subst hAe
      obtain ⟨B, cB, d0, h3, h4, h20⟩ := hcs k (by omega)
      have h2 := h20.below b0
      have d1 := (b0.cell (p := ⟨b, o + k, none⟩) hb).trans d0
      clear h20
      have HO := Lib.hid o0
      have hsz := b0.size
      have HTK := Lib.hid (HTS.out k (by omega))
      unfold maxLen at h4
      obtain ⟨r, hr⟩ : ∃ r, (getl L k).take 3 = r := ⟨_, rfl⟩
      have hrl : r.length = min (getl L k).length 3 := by rw [← hr, List.length_take]; omega
      rw [hr] at HTK
      have hmn : (if (3 : Int) < ((getl L k).length : Int) then (3 : Int) else ((getl L k).length : Int)) = ((r.length : Nat) : Int) := by rw [hrl]; split <;> omega
      have hrc : r.length ≤ cB := by omega
      have hr3 : r.length ≤ 3 := by omega
      have H2 := Lib.hid h2
      clear hcs o0 h2 hrl
      cases B with
      | none =>
        have hnil := nil_ints H2.out
        rw [hnil] at hr d1 hmn h3
        subst hr
        clear hmn
        have hdr : Below wr.heap.size wr wr.drew := (Below.refl _ _).drew
        have KS : Hid (∀ w', Below w.heap.size w w' → (w'.cell? ⟨b, o + k, none⟩ = some (.slice none 0 cB) ∧ Hid (Below w.heap.size w w'))) := Lib.hid fun w' h => ⟨(h.cell (p := ⟨b, o + k, none⟩) hb).trans (by rw [d0, hnil]; rfl), Lib.hid h⟩
        have bdr := b0.trans (hdr.mono hsz)
        have o5 : wr.drew.ownsRow wr.heap.size 3 1 (.slice none 0 0) ([] : List Int).length (iv []) := ⟨by simp [iv], .inl ⟨rfl, by simp⟩⟩
        have OO := Lib.hid (HO.out.kept' hdr)
        have RX := Lib.hid ((HR.out.below hdr).add (r := []) (own_mono o5 hsz))
        have hbs6 := bdr.size
        have hnr : Row (wr.drew.alloc (.cells #[.slice none 0 0] 22)) wr.drew.heap.size 22 [.slice none 0 0] := row_new rfl
        clear d0 o5 hnil
        go_wp2
        go_region_held3 (fun w' => w'.cell? ⟨b, o + k, none⟩ = some (.slice none 0 cB) ∧ Hid (Below w.heap.size w w')) (first | assumption | exact KS.out _ bdr | exact KS.out _ (bdr.alloc bdr.size _) | exact KS.out _ b8) ((first
          | (refine step_append_own_at rfl (.tmp 16) (.tmp 30) 23 rfl w.heap.size 22 k0 (.slice none 0 0) 1 24 Try.underlying23 ki kz0 kz1 kz2 rfl Nat.zero_lt_one _ k _ rfl (OO.out.alloc _) ⟨wr.drew.heap.size, 0, none⟩ 1 1 [.slice none 0 0] rfl rfl ?_ ?_ ?_ ?_ ?_ ?_; exact news_one hnr; simp [Value.oneCell']; (unfold maxLen; omega); omega; (simp; simp at hbs6; omega); intro v8 w8 o8 hg8; have b8 := bdr.trans (app1' OO.out hbs6 hg8))))
        go_wp2
        go_roundw
        case rel =>
          refine ⟨k + 1, cs ++ [.slice none 0 0], by omega, by go_num, o8, Lib.hid ?_, b8⟩
          rw [HTK.out]
          exact (RX.out.below ((Below.refl _ _).alloc (Nat.le_refl _) _)).grown (OO.out.alloc _) (by decide) hg8
        case measure => simp [intOf]; omega
      | some ad =>
        have HRE : Hid ((getl L k).take 3 = r) := Lib.hid hr
        generalize hq : (getl L k).length = q at *
        clear hr hq
        have hdr : Below wr.heap.size wr wr.drew := (Below.refl _ _).drew
        have hnewW := ((H2.out.below hdr).news 3)
        rw [HRE.out] at hnewW
        have HNW := Lib.hid hnewW
        have KS : Hid (∀ w', Below w.heap.size w w' → (w'.cell? ⟨b, o + k, none⟩ = some (.slice (some ad) q cB) ∧ Hid (Below w.heap.size w w'))) := Lib.hid fun w' h => ⟨(h.cell (p := ⟨b, o + k, none⟩) hb).trans d0, Lib.hid h⟩
        have bdr := b0.trans (hdr.mono hsz)
        clear hnewW
        go_wp2
        go_region_held3 (fun w' => w'.cell? ⟨b, o + k, none⟩ = some (.slice (some ad) q cB) ∧ Hid (Below w.heap.size w w')) (first | assumption | exact KS.out _ bdr | exact KS.out _ b6 | exact KS.out _ (b6.alloc b6.size _) | exact KS.out _ b8) ((first
          | (refine step_append_own_at rfl (.tmp 17) (.tmp 28) 22 rfl wr.heap.size 3 j0 (.int .i64 0) 1 8 Try.underlying22 ji jz0 jz1 jz2 rfl Nat.zero_lt_one (.slice none 0 0) 0 [] rfl ⟨by simp, .inl ⟨rfl, rfl⟩⟩ ad r.length cB (iv r) rfl ?_ ?_ ?_ ?_ ?_ ?_ ?_; (rw [iv_len]; omega); exact HNW.out; exact iv_one _; (unfold maxLen; omega); omega; exact hdr.size; intro v5 w5 o5x hg5; have o5 : w5.ownsRow wr.heap.size 3 1 v5 r.length (iv r) := (by simpa using o5x); obtain ⟨A5, c5, rfl, -, -, -⟩ := own_intsI o5; have b5 : Below wr.heap.size wr w5 := hdr.trans ((Below.refl _ _).grown hg5 hdr.size (by simp [Value.ownBlock])); have b6 := b0.trans (b5.mono hsz); have OO := Lib.hid (HO.out.kept' b5); have RX := Lib.hid ((HR.out.below b5).add (r := r) (own_mono o5 hsz)); have hbs6 := b6.size; have hnr : Row (w5.alloc (.cells #[.slice A5 r.length c5] 22)) w5.heap.size 22 [.slice A5 r.length c5] := row_new rfl)
          | (refine step_append_own_at rfl (.tmp 16) (.tmp 30) 23 rfl w.heap.size 22 k0 (.slice none 0 0) 1 24 Try.underlying23 ki kz0 kz1 kz2 rfl Nat.zero_lt_one _ k _ rfl (OO.out.alloc _) ⟨w5.heap.size, 0, none⟩ 1 1 [.slice A5 r.length c5] rfl rfl ?_ ?_ ?_ ?_ ?_ ?_; exact news_one hnr; simp [Value.oneCell']; (unfold maxLen; omega); omega; (simp; omega); intro v8 w8 o8 hg8; have b8 := b6.trans (app1' OO.out b6.size hg8))))
        go_wp2
        go_roundw
        case rel =>
          refine ⟨k + 1, cs ++ [.slice A5 r.length c5], by omega, by go_num, o8, Lib.hid ?_, b8⟩
          rw [HTK.out]
          exact (RX.out.below ((Below.refl _ _).alloc (Nat.le_refl _) _)).grown (OO.out.alloc _) (by decide) hg8
        case measure => simp [intOf]; omega
    · have hcase := HNE.out k hk hlt
      obtain rfl : k = n := by omega
      clear HNE hlt
      by_cases hL : k < L.length
      · have g1 : decide ((k : Int) < (L.length : Int)) = true := decide_eq_true (by omega)
        have g2 : decide ((k : Int) ≤ 60) = false := decide_eq_false (by omega)
        clear hcase
        go_wp2
        go_ret
        exact ⟨A2, c2, cs, rfl, o0, HR.out, b0⟩
      · have g1 : decide ((k : Int) < (L.length : Int)) = false := decide_eq_false (by omega)
        clear hcase
        go_wp2
        go_ret
        exact ⟨A2, c2, cs, rfl, o0, HR.out, b0⟩
end Go.Proofs.Ytokjdadgdfmffaa
