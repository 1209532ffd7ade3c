/- BagsOwn returns true: the walk. -/
import Derived.Test.YtpaeagkgmbhndaaCC
import Derived.Test.YtpaeagkgmbhndaaBR
namespace Go.Proofs.Ytpaeagkgmbhndaa
open Go.RowKit
set_option maxHeartbeats 1000000
set_option maxRecDepth 100000
/-- So many cells of a block that is not old may be written. -/
def Wr (N0 : Nat) (t : TypeId) (w : World) (A : Option Addr) (n : Nat) : Prop := 0 < n → ∃ b cs, A = some ⟨b, 0, none⟩ ∧ N0 ≤ b ∧ Row w b t cs ∧ n ≤ cs.length
theorem Wr.below {N0 n : Nat} {t : TypeId} {w w2 : World} {A : Option Addr} (h : Wr N0 t w A n) (b : Below w.heap.size w w2) : Wr N0 t w2 A n := fun hn => by
  obtain ⟨g, cs, a1, a2, a3, a4⟩ := h hn
  exact ⟨g, cs, a1, a2, a3.below b, a4⟩
theorem Wr.alloc {N0 n : Nat} {t : TypeId} {w : World} {A : Option Addr} (h : Wr N0 t w A n) (o : Obj) : Wr N0 t (w.alloc o) A n := h.below ((Below.refl _ _).alloc (Nat.le_refl _) o)
theorem Wr.mono {N0 N1 n : Nat} {t : TypeId} {w : World} {A : Option Addr} (h : Wr N1 t w A n) (e : N0 ≤ N1) : Wr N0 t w A n := fun hn => by
  obtain ⟨g, cs, a1, a2, a3, a4⟩ := h hn
  exact ⟨g, cs, a1, by omega, a3, a4⟩
theorem Wr.set {N0 n : Nat} {t : TypeId} {w : World} {A : Option Addr} (h : Wr N0 t w A n) (b k : Nat) (v : Value) : Wr N0 t (w.setCell ⟨b, k, none⟩ v) A n := fun hn => by
  obtain ⟨g, cs, a1, a2, a3, a4⟩ := h hn
  by_cases e : b = g
  · subst e
    exact ⟨b, cs.set k v, a1, a2, a3.set k v, by rw [List.length_set]; exact a4⟩
  · exact ⟨g, cs, a1, a2, a3.far (fun h => e h.symm) v, a4⟩
theorem own_wr {w : World} {N0 n : Nat} {t : TypeId} {v : Value} {xs : List Value} (h : w.ownsRow N0 t 1 v n xs) : ∃ A c, v = .slice A n c ∧ Wr N0 t w A n := by
  rcases h.2 with ⟨rfl, h0⟩ | ⟨g, cap, cur, rfl, hb, hg, hc, _, hs, ht⟩
  · subst h0
    exact ⟨none, 0, rfl, fun h => absurd h (by omega)⟩
  · exact ⟨_, cap, rfl, fun _ => ⟨g, cur.toList, rfl, hb, hg, by rw [Array.length_toList, hs]; omega⟩⟩
/-- What lies while the results are written. -/
structure OwnW (N0 : Nat) (W0 : World) (g : Nat) (vs : List Value) (B0 B1 B2 B3 B4 : Option Addr) (n0 n1 n2 n3 n4 : Nat) (w : World) : Prop where
  all : Row w g 24 vs
  r0 : Wr N0 3 w B0 n0
  r1 : Wr N0 3 w B1 n1
  r2 : Wr N0 3 w B2 n2
  r3 : Wr N0 3 w B3 n3
  r4 : Wr N0 65 w B4 n4
  bel : Below N0 W0 w
theorem OwnW.set3 {N0 : Nat} {W0 : World} {g : Nat} {vs : List Value} {B0 B1 B2 B3 B4 : Option Addr} {n0 n1 n2 n3 n4 : Nat} {w : World} (h : OwnW N0 W0 g vs B0 B1 B2 B3 B4 n0 n1 n2 n3 n4 w) {b k : Nat} {cs : List Value} {t : TypeId} (hr : Row w b t cs) (ht : t ≠ 24) (hb : N0 ≤ b) (v : Value) :
    OwnW N0 W0 g vs B0 B1 B2 B3 B4 n0 n1 n2 n3 n4 (w.setCell ⟨b, k, none⟩ v) := by
  have hne : b ≠ g := fun e => by
    subst e
    have h1 := row_heap hr
    have h2 := row_heap h.all
    rw [h1] at h2
    injection h2 with h2
    injection h2 with _ h2
    exact ht h2
  exact ⟨h.all.far (fun h => hne h.symm) v, h.r0.set b k v, h.r1.set b k v, h.r2.set b k v, h.r3.set b k v, h.r4.set b k v, h.bel.setCell hb v⟩
theorem BagsOwn_any (n : Int) (A : Option Addr) (c : Nat) (es : List (Int × Int)) (w : World) (hx : es.length ≤ c) (hc : c ≤ maxLen) (ha : PairsAt w A es) :
    Calls Try.prog 13 #[.int .i64 n, .slice A es.length c] w fun e w' => e = .returned (.bool true) ∧ Below w.heap.size w w' := by
  have hml := modI_lt n (show 0 < 10 by omega)
  have HM := Lib.hid (mod_any n 10 w (by omega) (by omega))
  generalize modI n 10 = m0 at *
  obtain ⟨m, hmm⟩ : ∃ m : Nat, m = 1 + m0 := ⟨_, rfl⟩
  have HMM := Lib.hid (show (1 + (m0 : Int)) = (m : Int) by omega)
  have hm1 : 1 ≤ m := by omega
  have hm12 : m ≤ 12 := by omega
  clear hmm
  have HT := Lib.hid (tame_any m A c es w hx hc ha hm1 (by omega))
  clear hx hc ha
  go_enter Try.func13, Try.ntmps13
  go_wp2_with (first
    | (go_at_call 36; refine HM.out.mono ?_; rintro e w' ⟨rfl, rfl⟩)
    | (go_at_call 37; rw [HMM.out]; refine HT.out.mono ?_; rintro e w1 ⟨v1, own, gs, rfl, hol, hgs, o1, b1⟩; obtain ⟨A1, c1, rfl, -, hc1, p1⟩ := own_pairs o1; have HG := Lib.hid hgs; have hc1m : c1 ≤ maxLen := (by rcases o1.2 with ⟨h, _⟩ | ⟨g, cap, cur, h, _, _, _, hcm, _⟩ <;> (injection h with _ _ h; first | omega | (unfold maxLen; omega))); have HTK := Lib.hid (List.take_of_length_le (show own.length ≤ 130 by omega)); clear o1 hgs)
    | (go_at_call 14; refine (edges_any A1 c1 own w1 hc1 hc1m p1).mono ?_; rintro e w2 ⟨v2, n2, rfl, o2, b2⟩; rw [HTK.out] at o2; obtain ⟨A2, c2, rfl, -, -, p2⟩ := own_pairs o2; replace p1 := p1.below b2; have b0 := b1.trans (b2.mono b1.size); have HP1 := Lib.hid (fun (V : World) (h : Below w2.heap.size w2 V) => p1.below h); have HP2 := Lib.hid (fun (V : World) (h : Below w2.heap.size w2 V) => p2.below h); have bb := Below.refl w2.heap.size w2; clear hc1 hc1m o2 b1 b2 p1 p2)
    | (go_at_call 15; refine (Densest_some m A1 c1 own gs _ (by omega) (HP1.out _ bb) HG.out).mono ?_; rintro e w3 ⟨v3, g3, s, p, q, H, L, f, rfl, hD, -, -, -, o3, hg3, hr3, b3⟩; have HD := Lib.hid hD; obtain ⟨A3, c3, rfl, r3⟩ := own_wr o3; have rp : Wr w2.heap.size 65 w3 (some ⟨g3, 0, none⟩) (own.length * 2) := (fun hn => ⟨g3, _, rfl, hg3, hr3 (by omega), by simp [cellsF]⟩); replace r3 := r3.alloc (.cells #[.int .i64 p, .int .i64 q] 26); replace rp := rp.alloc (.cells #[.int .i64 p, .int .i64 q] 26); replace bb := (bb.trans b3).alloc b3.size (.cells #[.int .i64 p, .int .i64 q] 26); have hs16 := ms_len s; clear o3 hr3 b3 hD hg3)
    | (go_at_call 27; refine (Orient_some m A1 c1 own gs _ (by omega) (HP1.out _ bb) HG.out).mono ?_; rintro e w4 ⟨v4, v4', hs, ts, s', p', q', rfl, hO, o4, o4', b4⟩; obtain ⟨A4, c4, rfl, r4⟩ := own_wr o4; obtain ⟨A5, c5, rfl, r5⟩ := own_wr o4'; replace r4 := r4.mono bb.size; replace r5 := r5.mono bb.size; have hhl : hs.length ≤ 130 := (by have := hO.heads.1; rw [natI_len] at this; omega); have htl : ts.length ≤ 16 := (by rcases Nat.eq_zero_or_pos p' with h | h; (rw [(hO.zero h).2.2]; simp); (rw [(hO.pos h).1]; exact ms_len _)); replace r3 := r3.below b4; replace rp := rp.below b4; replace bb := bb.trans (b4.mono bb.size); clear o4 o4' b4 hO)
    | (go_at_call 32; refine (Cores_some m A1 c1 own gs _ (by omega) (HP1.out _ bb) HG.out).mono ?_; rintro e w5 ⟨g6, hg6, rfl, r6', b5⟩; have hcl : (coreF m gs).length = m := coreL_len m _; have hg6' := Nat.le_trans bb.size hg6; have r6 : Wr w2.heap.size 3 w5 (some ⟨g6, 0, none⟩) m := (fun _ => ⟨g6, _, rfl, hg6', r6', by simp [intv, hcl]⟩); replace r3 := r3.below b5; replace rp := rp.below b5; replace r4 := r4.below b5; replace r5 := r5.below b5; replace bb := bb.trans (b5.mono bb.size); clear r6' b5 hg6 hcl hg6'))
  have hI0 : OwnW w2.heap.size w2 w5.heap.size [.slice A3 (ms s).length c3, .slice A4 hs.length c4, .slice A5 ts.length c5, .slice (some ⟨g6, 0, none⟩) m m] A3 A4 A5 (some ⟨g6, 0, none⟩) (some ⟨g3, 0, none⟩) (ms s).length hs.length ts.length m (own.length * 2) (w5.alloc (.cells #[.slice A3 (ms s).length c3, .slice A4 hs.length c4, .slice A5 ts.length c5, .slice (some ⟨g6, 0, none⟩) m m] 24)) := ⟨row_new rfl, r3.alloc _, r4.alloc _, r5.alloc _, r6.alloc _, rp.alloc _, bb.alloc bb.size _⟩
  have hz5 := bb.size
  clear r3 r4 r5 r6 rp bb
  obtain ⟨INV, hINV⟩ : ∃ INV : World → Prop, INV = OwnW w2.heap.size w2 w5.heap.size [.slice A3 (ms s).length c3, .slice A4 hs.length c4, .slice A5 ts.length c5, .slice (some ⟨g6, 0, none⟩) m m] A3 A4 A5 (some ⟨g6, 0, none⟩) (some ⟨g3, 0, none⟩) (ms s).length hs.length ts.length m (own.length * 2) := ⟨_, rfl⟩
  rw [← hINV] at hI0
  have HI := Lib.hid (fun (W : World) (h : INV W) => (hINV ▸ h : OwnW w2.heap.size w2 w5.heap.size [.slice A3 (ms s).length c3, .slice A4 hs.length c4, .slice A5 ts.length c5, .slice (some ⟨g6, 0, none⟩) m m] A3 A4 A5 (some ⟨g6, 0, none⟩) (some ⟨g3, 0, none⟩) (ms s).length hs.length ts.length m (own.length * 2) W))
  have HS := Lib.hid (fun (W : World) (h : INV W) (b k : Nat) (cs : List Value) (t : TypeId) (v : Value) (hr : Row W b t cs) (ht : t ≠ 24) (hb : w2.heap.size ≤ b) => (by subst hINV; exact OwnW.set3 h hr ht hb v : INV (W.setCell ⟨b, k, none⟩ v)))
  have HV0 := Lib.hid hI0
  clear hINV hI0
  generalize w5.heap.size = ga at *
  go_loopw [17] (fun i wr => ∃ k : Nat, k ≤ 4 ∧ i = .int .i64 k ∧ Hid (INV wr)) (fun i _ => 4 - (intOf i).toNat)
  case atStart => exact ⟨0, by omega, rfl, HV0⟩
  case round =>
    clear HV0
    obtain ⟨k, hk, rfl, HV⟩ := hrel
    rcases (by omega : k = 0 ∨ k = 1 ∨ k = 2 ∨ k = 3 ∨ k = 4) with rfl | rfl | rfl | rfl | rfl
    · go_wp2
      go_loopw [18] (fun i wr => ∃ k : Nat, k ≤ (ms s).length ∧ i = .int .i64 k ∧ Hid (INV wr)) (fun i _ => (ms s).length - (intOf i).toNat)
      case atStart => exact ⟨0, by omega, rfl, HV⟩
      case round =>
        clear HV
        obtain ⟨k, hk, rfl, HV⟩ := hrel
        have l0 : wr.cell? ⟨ga, 0, none⟩ = some (.slice A3 (ms s).length c3) := by rw [(HI.out _ HV.out).all.cell]; rfl
        by_cases hlt : k < (ms s).length
        · obtain ⟨b, cs, hA, hb, hr, hl⟩ := (HI.out _ HV.out).r0 (by omega)
          rw [hA] at l0
          obtain ⟨x0, d0⟩ : ∃ x, wr.cell? ⟨b, k, none⟩ = some x := ⟨_, by rw [hr.cell]; exact List.getElem?_eq_getElem (by omega)⟩
          have f0 := hr.free k
          have HN := Lib.hid (HS.out wr HV.out b k cs 3 (.int .i64 (-7)) hr (by decide) hb)
          clear hr hb hA hl
          go_wp2
          go_roundw
          case rel => exact ⟨k + 1, by omega, by go_num, HN⟩
          case measure => simp [intOf]; omega
        · have hkn : k = (ms s).length := by omega
          subst hkn
          go_wp2
          go_roundw
          case rel => exact ⟨1, by omega, by go_num, HV⟩
          case measure => simp [intOf]
    · go_wp2
      go_loopw [18] (fun i wr => ∃ k : Nat, k ≤ hs.length ∧ i = .int .i64 k ∧ Hid (INV wr)) (fun i _ => hs.length - (intOf i).toNat)
      case atStart => exact ⟨0, by omega, rfl, HV⟩
      case round =>
        clear HV
        obtain ⟨k, hk, rfl, HV⟩ := hrel
        have l0 : wr.cell? ⟨ga, 1, none⟩ = some (.slice A4 hs.length c4) := by rw [(HI.out _ HV.out).all.cell]; rfl
        by_cases hlt : k < hs.length
        · obtain ⟨b, cs, hA, hb, hr, hl⟩ := (HI.out _ HV.out).r1 (by omega)
          rw [hA] at l0
          obtain ⟨x0, d0⟩ : ∃ x, wr.cell? ⟨b, k, none⟩ = some x := ⟨_, by rw [hr.cell]; exact List.getElem?_eq_getElem (by omega)⟩
          have f0 := hr.free k
          have HN := Lib.hid (HS.out wr HV.out b k cs 3 (.int .i64 (-7)) hr (by decide) hb)
          clear hr hb hA hl
          go_wp2
          go_roundw
          case rel => exact ⟨k + 1, by omega, by go_num, HN⟩
          case measure => simp [intOf]; omega
        · have hkn : k = hs.length := by omega
          subst hkn
          go_wp2
          go_roundw
          case rel => exact ⟨2, by omega, by go_num, HV⟩
          case measure => simp [intOf]
    · go_wp2
      go_loopw [18] (fun i wr => ∃ k : Nat, k ≤ ts.length ∧ i = .int .i64 k ∧ Hid (INV wr)) (fun i _ => ts.length - (intOf i).toNat)
      case atStart => exact ⟨0, by omega, rfl, HV⟩
      case round =>
        clear HV
        obtain ⟨k, hk, rfl, HV⟩ := hrel
        have l0 : wr.cell? ⟨ga, 2, none⟩ = some (.slice A5 ts.length c5) := by rw [(HI.out _ HV.out).all.cell]; rfl
        by_cases hlt : k < ts.length
        · obtain ⟨b, cs, hA, hb, hr, hl⟩ := (HI.out _ HV.out).r2 (by omega)
          rw [hA] at l0
          obtain ⟨x0, d0⟩ : ∃ x, wr.cell? ⟨b, k, none⟩ = some x := ⟨_, by rw [hr.cell]; exact List.getElem?_eq_getElem (by omega)⟩
          have f0 := hr.free k
          have HN := Lib.hid (HS.out wr HV.out b k cs 3 (.int .i64 (-7)) hr (by decide) hb)
          clear hr hb hA hl
          go_wp2
          go_roundw
          case rel => exact ⟨k + 1, by omega, by go_num, HN⟩
          case measure => simp [intOf]; omega
        · have hkn : k = ts.length := by omega
          subst hkn
          go_wp2
          go_roundw
          case rel => exact ⟨3, by omega, by go_num, HV⟩
          case measure => simp [intOf]
    · go_wp2
      go_loopw [18] (fun i wr => ∃ k : Nat, k ≤ m ∧ i = .int .i64 k ∧ Hid (INV wr)) (fun i _ => m - (intOf i).toNat)
      case atStart => exact ⟨0, by omega, rfl, HV⟩
      case round =>
        clear HV
        obtain ⟨k, hk, rfl, HV⟩ := hrel
        have l0 : wr.cell? ⟨ga, 3, none⟩ = some (.slice (some ⟨g6, 0, none⟩) m m) := by rw [(HI.out _ HV.out).all.cell]; rfl
        by_cases hlt : k < m
        · obtain ⟨b, cs, hA, hb, hr, hl⟩ := (HI.out _ HV.out).r3 (by omega)
          rw [hA] at l0
          obtain ⟨x0, d0⟩ : ∃ x, wr.cell? ⟨b, k, none⟩ = some x := ⟨_, by rw [hr.cell]; exact List.getElem?_eq_getElem (by omega)⟩
          have f0 := hr.free k
          have HN := Lib.hid (HS.out wr HV.out b k cs 3 (.int .i64 (-7)) hr (by decide) hb)
          clear hr hb hA hl
          go_wp2
          go_roundw
          case rel => exact ⟨k + 1, by omega, by go_num, HN⟩
          case measure => simp [intOf]; omega
        · have hkn : k = m := by omega
          subst hkn
          go_wp2
          go_roundw
          case rel => exact ⟨4, by omega, by go_num, HV⟩
          case measure => simp [intOf]
    · go_wp2
      go_loopw [19] (fun i wr => ∃ k : Nat, k ≤ own.length ∧ i = .int .i64 k ∧ Hid (INV wr)) (fun i _ => own.length - (intOf i).toNat)
      case atStart => exact ⟨0, by omega, rfl, HV⟩
      case round =>
        clear HV
        obtain ⟨k, hk, rfl, HV⟩ := hrel
        by_cases hlt : k < own.length
        · obtain ⟨b, cs, hA, hb, hr, hl⟩ := (HI.out _ HV.out).r4 (by omega)
          injection hA with hA
          injection hA with hA
          subst hA
          obtain ⟨x0, d0⟩ : ∃ x, wr.cell? ⟨g3, k * 2, none⟩ = some x := ⟨_, by rw [hr.cell]; exact List.getElem?_eq_getElem (by omega)⟩
          obtain ⟨x1, d1⟩ : ∃ x, wr.cell? ⟨g3, k * 2 + 1, none⟩ = some x := ⟨_, by rw [hr.cell]; exact List.getElem?_eq_getElem (by omega)⟩
          have f0 := hr.free (k * 2)
          have f1 := hr.free (k * 2 + 1)
          have HN := Lib.hid (HS.out _ (HS.out wr HV.out g3 (k * 2) cs 65 (.int .i64 (-7)) hr (by decide) hb) g3 (k * 2 + 1) (cs.set (k * 2) (.int .i64 (-7))) 65 (.int .i64 (-7)) (hr.set _ _) (by decide) hb)
          clear hr hb hl
          go_wp2
          go_roundw
          case rel => exact ⟨k + 1, by omega, by go_num, HN⟩
          case measure => simp [intOf]; omega
        · obtain rfl : k = own.length := by omega
          have bb := (HI.out _ HV.out).bel
          clear HV
          go_wp2_with (first
            | (go_at_call 32; refine (Cores_some m A1 c1 own gs _ (by omega) (HP1.out _ bb) HG.out).mono ?_; rintro e w7 ⟨g7, hg7, rfl, r7, b7⟩; have j7 := row_ints r7; replace bb := bb.trans (b7.mono bb.size); clear r7 b7 hg7)
            | (go_at_call 15; refine (Densest_some m A1 c1 own gs _ (by omega) (HP1.out _ bb) HG.out).mono ?_; rintro e w8 ⟨v8, g8, s8, p8, q8, H8, L8, f8, rfl, hD8, -, -, -, o8, -, -, b8⟩; obtain ⟨e8, -, -⟩ := hD8.one HD.out; subst e8; obtain ⟨A8, c8, e8, -, i8⟩ := own_ints o8; rw [← natI_len] at e8; subst e8; replace j7 := (j7.below b8).alloc (.cells #[.int .i64 p8, .int .i64 q8] 26); replace i8 := i8.alloc (.cells #[.int .i64 p8, .int .i64 q8] 26); replace bb := bb.trans (b8.mono bb.size); replace bb := bb.alloc bb.size (.cells #[.int .i64 p8, .int .i64 q8] 26); clear o8 b8 hD8))
          generalize w8.alloc _ = W at *
          go_loopw [26] (fun i wr => ∃ (k : Nat), k ≤ own.length ∧ i = .int .i64 k ∧ Hid (Below W.heap.size W wr)) (fun i _ => own.length - (intOf i).toNat)
          case atStart => exact ⟨0, by omega, rfl, Lib.hid (Below.refl _ _)⟩
          case round =>
            obtain ⟨k, hk, rfl, HBW⟩ := hrel
            by_cases hlt : k < own.length
            · obtain ⟨b, o, rfl, hb1, hc⟩ := HP1.out _ (bb.trans (HBW.out.mono bb.size)) (by omega)
              obtain ⟨b', o', rfl, hb1', hc'⟩ := HP2.out _ (bb.trans (HBW.out.mono bb.size)) (by omega)
              obtain ⟨c1', c2'⟩ := hc k hlt
              obtain ⟨c3', c4'⟩ := hc' k hlt
              clear hc hc'
              generalize pA own k = xa at *
              generalize pB own k = xb at *
              go_wp2
              have hS : wr.cell? ⟨b, o + k * 2, none⟩ = some (.int .i64 xa) ∧ wr.cell? ⟨b, o + k * 2 + 1, none⟩ = some (.int .i64 xb) ∧ wr.cell? ⟨b', o' + k * 2, none⟩ = some (.int .i64 xa) ∧ wr.cell? ⟨b', o' + k * 2 + 1, none⟩ = some (.int .i64 xb) ∧ Hid (Below W.heap.size W wr) := ⟨c1', c2', c3', c4', HBW⟩
              go_region_held3 (fun w' => w'.cell? ⟨b, o + k * 2, none⟩ = some (.int .i64 xa) ∧ w'.cell? ⟨b, o + k * 2 + 1, none⟩ = some (.int .i64 xb) ∧ w'.cell? ⟨b', o' + k * 2, none⟩ = some (.int .i64 xa) ∧ w'.cell? ⟨b', o' + k * 2 + 1, none⟩ = some (.int .i64 xb) ∧ Hid (Below W.heap.size W w')) (first | assumption | exact ⟨by simpa using c1', by simpa using c2', by simpa using c3', by simpa using c4', Lib.hid HBW.out.drew⟩) (fail)
              all_goals go_wp2
              go_roundw
              case rel => exact ⟨k + 1, by omega, by go_num, by first | assumption | exact Lib.hid HBW.out.drew | exact Lib.hid (HBW.out.trans (below_drewN _))⟩
              case measure => simp [intOf]; omega
            · obtain rfl : k = own.length := by omega
              have hcl : (natI (coreF m gs)).length = m := by rw [natI_len]; exact coreL_len m _
              have hs16' : (natI (ms s8)).length ≤ 16 := by rw [natI_len]; exact ms_len _
              replace j7 := j7.below HBW.out
              replace i8 := i8.below HBW.out
              replace bb := bb.trans (HBW.out.mono bb.size)
              clear HBW
              go_wp2_with (first
                | (go_at_call 35; refine (RefCores_any m A2 c2 own gs _ (by omega) (HP2.out _ bb) HG.out).mono ?_; rintro e w9 ⟨g9, rfl, hg9, r9, b9⟩; have j9 := row_ints r9; replace j7 := j7.below b9; replace i8 := i8.below b9; replace bb := bb.trans (b9.mono bb.size); clear r9 b9 hg9)
                | (go_at_call 21; (with_reducible refine (ints_yes (some ⟨g7, 0, none⟩) (some ⟨g9, 0, none⟩) m m (natI (coreF m gs)) m _ hcl (by omega) j7 j9).mono ?_); rintro e wa ⟨rfl, na, rfl⟩; replace i8 := i8.drewN na; replace bb := bb.trans (below_drewN na); clear j7 j9)
                | (go_at_call 19; refine (RefDensest_any m A2 c2 own gs s8 p q _ (by omega) (HP2.out _ bb) HG.out HD.out).mono ?_; rintro e wb ⟨v10, rfl, o10, b10⟩; obtain ⟨A10, c10, e10, -, i10⟩ := own_ints o10; rw [← natI_len] at e10; subst e10; replace i8 := i8.below b10; replace bb := bb.trans (b10.mono bb.size); clear b10 o10)
                | (go_at_call 21; (with_reducible refine (ints_yes A8 A10 c8 c10 (natI (ms s8)) _ _ rfl (by omega) i8 i10).mono ?_); rintro e wc ⟨rfl, nc, rfl⟩; replace bb := bb.trans (below_drewN nc); clear i8 i10)
                | (go_at_call 18; refine (awake_any _).mono ?_; rintro e wd ⟨rfl, bd⟩))
              go_ret
              exact ⟨rfl, b0.trans ((bb.trans (bd.mono bb.size)).mono b0.size)⟩
end Go.Proofs.Ytpaeagkgmbhndaa
