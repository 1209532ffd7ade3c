/- BagsOrients returns true: the walk. -/
import Derived.Test.YtmfpegadcecknaaBJ
namespace Go.Proofs.Ytmfpegadcecknaa
open Go.RowKit
set_option maxHeartbeats 1000000
set_option maxRecDepth 100000
theorem set_yes {n : Nat} {A : Option Addr} {c : Nat} {xs : List Int} {w : World} (hx : xs.length ≤ 1000000) (ha : IntsAt w A xs) (h : IsSet n xs) :
    Calls Try.prog 26 #[.int .i64 n, .slice A xs.length c] w fun e w' => e = .returned (.bool true) ∧ ∃ n, w' = w.drewN n :=
  (Set_any n A c xs w hx ha).mono fun _ _ ⟨h1, h2⟩ => ⟨by rw [h1]; exact ret_bool (decide_eq_true h), h2⟩
theorem cnt_first {hs : List Int} (h0 : (geti hs 0).toNat < 16) : ∀ k, k < hs.length → 1 ≤ getn (cntT hs (k + 1)) (geti hs 0).toNat
  | 0, hk => by rw [cntT_succ hk, getn_set (by rw [cntT_len]; exact h0), if_pos rfl]; omega
  | k + 1, hk => by
    have ih := cnt_first h0 k (by omega)
    rw [cntT_succ hk]
    by_cases e : (geti hs (k + 1)).toNat < 16
    · rw [getn_set (by rw [cntT_len]; exact e)]; split
      · rename_i e2; rw [e2]; omega
      · exact ih
    · rw [List.set_eq_of_length_le (by rw [cntT_len]; omega)]; exact ih
/-- The height of an orientation. -/
theorem height_nat {m : Nat} {es : List (Int × Int)} {gs : List Nat} (h : readF m es = some gs) {hs : List Int} (hh : HeadsP es hs) : ∃ G : Nat, maxTo (natI (cntT hs hs.length)) 16 = (G : Int) ∧ (∀ v, v < 16 → getn (cntT hs es.length) v ≤ G) ∧ (∃ v, v < 16 ∧ getn (cntT hs es.length) v = G) ∧ (es ≠ [] → 1 ≤ G) ∧ (es = [] → G = 0) := by
  obtain ⟨h1, j, hj, h2⟩ := maxTo_spec (natI (cntT hs hs.length)) 16 (by omega)
  rw [geti_natI] at h2
  have hb : ∀ v, v < 16 → getn (cntT hs hs.length) v ≤ getn (cntT hs hs.length) j := fun v hv => by
    have := h1 v hv; rw [geti_natI, ← h2] at this; omega
  refine ⟨getn (cntT hs hs.length) j, h2.symm, ?_, ⟨j, hj, ?_⟩, fun he => ?_, fun he => ?_⟩
  · rw [← hh.1]; exact hb
  · rw [← hh.1]
  · have hl : 0 < es.length := List.length_pos_iff.2 he
    have hb0 := hh.bound h 0 (by rw [hh.1]; exact hl)
    have hm : m ≤ 16 := by have := readF_ok h; omega
    have h3 := cnt_first (hs := hs) (by omega) (hs.length - 1) (by rw [hh.1]; omega)
    rw [show hs.length - 1 + 1 = hs.length by rw [hh.1]; omega] at h3
    have := hb (geti hs 0).toNat (by omega)
    omega
  · have hl : hs.length = 0 := by rw [hh.1, he]; rfl
    have := cntT_le hs j hs.length
    omega
theorem orient_set {m : Nat} {es : List (Int × Int)} {gs : List Nat} (h : readF m es = some gs) {s p q : Nat} {hs ts : List Nat} (o : OrientI m es gs s p q hs ts) (hne : es ≠ []) {G : Nat} (hG : ∃ v, v < 16 ∧ getn (cntT (natI hs) es.length) v = G) (hG1 : 1 ≤ G) :
    ts = ms s ∧ IsSet m (natI ts) ∧ (G - 1) * ts.length < insT es (natI ts) es.length ∧ G ≤ 200 ∧ ts.length ≤ 16 := by
  have d := o.dens
  have hp : p ≠ 0 := fun e => hne ((dens_zero h d).1 e)
  obtain ⟨hts, _⟩ := o.pos (by omega)
  subst hts
  have hI := ends_ins h (S := s) (xs := natI (ms s)) (fun v => ms_has d.lt)
  obtain ⟨q0, q16, p128, hd⟩ := den_terms d.lt d.ne d.den
  have hps := pc_pos d.lt d.ne
  obtain ⟨v, hv, hGv⟩ := hG
  have hlow := o.low v hv
  rw [hGv] at hlow
  rw [hI] at hd
  rw [ms_pc]
  refine ⟨rfl, ms_set d.lt d.ne d.sub, ?_, ?_, pc_le 16 s⟩
  · have h1 : (G - 1) * q < p := by
      have h2 := Nat.mul_le_mul_right q hlow
      have h3 := Nat.div_mul_le_self (p + q - 1) q
      have h4 : (G - 1) * q + q = G * q := by rw [← Nat.succ_mul]; congr 1; omega
      omega
    have h5 : (G - 1) * q * pc 16 s < p * pc 16 s := Nat.mul_lt_mul_of_pos_right h1 hps
    rw [hd] at h5
    have h6 : (G - 1) * q * pc 16 s = ((G - 1) * pc 16 s) * q := by ac_rfl
    rw [h6] at h5
    exact Nat.lt_of_mul_lt_mul_right h5
  · have := Nat.div_le_self (p + q - 1) q; omega
theorem BagsOrients_any (n : Int) (A : Option Addr) (c : Nat) (es : List (Int × Int)) (w : World) (hx : es.length ≤ c) (hc : c ≤ maxLen) (ha : PairsAt w A es) :
    Calls Try.prog 5 #[.int .i64 n, .slice A es.length c] w fun e w' => e = .returned (.bool true) ∧ Below w.heap.size w w' := by
  have HE := Lib.hid (edges_any A c es w hx hc ha)
  have hl1 : (es.take 130).length ≤ 130 := by rw [List.length_take]; omega
  clear hx hc ha
  generalize es.take 130 = own at *
  rcases hr : readF n own with _ | gs
  · have HR := Lib.hid hr
    clear hr
    go_enter Try.func5, Try.ntmps5
    go_wp2_with (first
      | (go_at_call 14; refine HE.out.mono ?_; rintro e w1 ⟨v1, n1, rfl, o1, b1⟩; obtain ⟨A1, c1, rfl, -, -, p1⟩ := own_pairs o1; clear o1)
      | (go_at_call 27; refine (Orient_none n A1 c1 own _ (by omega) p1 HR.out).mono ?_; rintro e w2 ⟨rfl, b2⟩; have p2 := p1.below b2; have b3 := b1.trans (b2.mono b1.size); clear p1 b1 b2)
      | (go_at_call 16; refine (Graph_no (by omega) p2 HR.out).mono ?_; rintro e w4 ⟨rfl, b6⟩; have b7 := b3.trans (b6.mono b3.size); clear p2 b3 b6)
      | (go_at_call 18; refine (awake_any _).mono ?_; rintro e w5 ⟨rfl, b8⟩))
    go_ret
    exact ⟨rfl, b7.trans (b8.mono b7.size)⟩
  · obtain ⟨m, rfl⟩ := readF_nat hr
    have hm16 : m ≤ 16 := by have := readF_ok hr; omega
    have HR := Lib.hid hr
    clear hr
    by_cases hne : own = []
    · have HNE := Lib.hid hne
      have hl0 : ((own.length : Int) == 0) = true := by rw [hne]; rfl
      clear hne
      go_enter Try.func5, Try.ntmps5
      go_wp2_with (first
        | (go_at_call 14; refine HE.out.mono ?_; rintro e w1 ⟨v1, n1, rfl, o1, b1⟩; obtain ⟨A1, c1, rfl, -, -, p1⟩ := own_pairs o1; clear o1)
        | (go_at_call 27; refine (Orient_some m A1 c1 own gs _ (by omega) p1 HR.out).mono ?_; rintro e w2 ⟨v2, v3, hs, ts, s, p, q, rfl, hO, o2, o3, b2⟩; obtain ⟨A2, c2, e2, -, i2⟩ := own_ints o2; obtain ⟨A3, c3, e3, -, i3⟩ := own_ints o3; have hnl := natI_len hs; have hnt := natI_len ts; rw [← hnl] at e2; rw [← hnt] at e3; subst e2 e3; have p2 := p1.below b2; have b3 := b1.trans (b2.mono b1.size); have HO := Lib.hid hO; obtain ⟨G, hg1, hg2, hg3, hg4, hg5⟩ := height_nat HR.out hO.heads; have HB := Lib.hid (hO.heads.bound HR.out); have HG1 := Lib.hid hg1; have HG3 := Lib.hid hg3; have HG4 := Lib.hid hg4; have HG5 := Lib.hid hg5; have hlen := hO.heads.1; have hlh : (natI hs).length ≤ 130 := (by rw [hlen]; exact hl1); clear p1 b1 b2 o2 o3 hO hg1 hg2 hg3 hg4 hg5 hnl hnt hlen)
        | (go_at_call 16; refine (Graph_yes (by omega) p2 HR.out).mono ?_; rintro e w4 ⟨rfl, b6⟩; have p4 := p2.below b6; have i4 := i2.below b6; have j4 := i3.below b6; have b7 := b3.trans (b6.mono b3.size); clear p2 i2 i3 b3 b6)
        | (go_at_call 28; refine (heads_yes (by omega) p4 i4 HO.out.heads).mono ?_; rintro e w5 ⟨rfl, n5, rfl⟩; have p5 := p4.below (below_drewN n5); have i5 := i4.drewN n5; have j5 := j4.drewN n5; have b9 := b7.trans (below_drewN n5); clear p4 i4 j4 b7)
        | (go_at_call 29; refine (RefHeight_any m A2 c2 (natI hs) _ hm16 (by omega) i5 HB.out).mono ?_; rintro e w6 ⟨rfl, b10⟩; rw [HG1.out]; have p6 := p5.below b10; have j6 := j5.below b10; have b11 := b9.trans (b10.mono b9.size); clear p5 i5 j5 b9 b10; have hG0 := HG5.out HNE.out; subst hG0; have HTS := Lib.hid (HO.out.zero ((dens_zero HR.out HO.out.dens).2 HNE.out)).2.2; have ht0 : (((natI ts).length : Int) == 0) = true := (by rw [HTS.out]; rfl))
        | (go_at_call 18; refine (awake_any _).mono ?_; rintro e w7 ⟨rfl, b12⟩))
      go_ret
      exact ⟨rfl, b11.trans (b12.mono b11.size)⟩
    · have HNE := Lib.hid hne
      clear hne
      go_enter Try.func5, Try.ntmps5
      go_wp2_with (first
        | (go_at_call 14; refine HE.out.mono ?_; rintro e w1 ⟨v1, n1, rfl, o1, b1⟩; obtain ⟨A1, c1, rfl, -, -, p1⟩ := own_pairs o1; clear o1)
        | (go_at_call 27; refine (Orient_some m A1 c1 own gs _ (by omega) p1 HR.out).mono ?_; rintro e w2 ⟨v2, v3, hs, ts, s, p, q, rfl, hO, o2, o3, b2⟩; obtain ⟨A2, c2, e2, -, i2⟩ := own_ints o2; obtain ⟨A3, c3, e3, -, i3⟩ := own_ints o3; have hnl := natI_len hs; have hnt := natI_len ts; rw [← hnl] at e2; rw [← hnt] at e3; subst e2 e3; have p2 := p1.below b2; have b3 := b1.trans (b2.mono b1.size); have HO := Lib.hid hO; obtain ⟨G, hg1, hg2, hg3, hg4, hg5⟩ := height_nat HR.out hO.heads; have HB := Lib.hid (hO.heads.bound HR.out); have HG1 := Lib.hid hg1; have HG3 := Lib.hid hg3; have HG4 := Lib.hid hg4; have HG5 := Lib.hid hg5; have hlen := hO.heads.1; have hlh : (natI hs).length ≤ 130 := (by rw [hlen]; exact hl1); clear p1 b1 b2 o2 o3 hO hg1 hg2 hg3 hg4 hg5 hnl hnt hlen)
        | (go_at_call 16; refine (Graph_yes (by omega) p2 HR.out).mono ?_; rintro e w4 ⟨rfl, b6⟩; have p4 := p2.below b6; have i4 := i2.below b6; have j4 := i3.below b6; have b7 := b3.trans (b6.mono b3.size); clear p2 i2 i3 b3 b6)
        | (go_at_call 28; refine (heads_yes (by omega) p4 i4 HO.out.heads).mono ?_; rintro e w5 ⟨rfl, n5, rfl⟩; have p5 := p4.below (below_drewN n5); have i5 := i4.drewN n5; have j5 := j4.drewN n5; have b9 := b7.trans (below_drewN n5); clear p4 i4 j4 b7)
        | (go_at_call 29; refine (RefHeight_any m A2 c2 (natI hs) _ hm16 (by omega) i5 HB.out).mono ?_; rintro e w6 ⟨rfl, b10⟩; rw [HG1.out]; have p6 := p5.below b10; have j6 := j5.below b10; have b11 := b9.trans (b10.mono b9.size); clear p5 i5 j5 b9 b10; have hG1 := HG4.out HNE.out; obtain ⟨z1, z2, z3, z4, z5⟩ := orient_set HR.out HO.out HNE.out HG3.out hG1; have hnt := natI_len ts; have Z2 := Lib.hid z2; have hz : ((G : Int) == 0) = false := (by simp; omega); have hile := insT_le own (natI ts) own.length; have y1 : (0 : Int) ≤ ((G : Int) - 1) * (natI ts).length := (Int.mul_nonneg (by omega) (by omega)); have y2 : ((G : Int) - 1) * (natI ts).length ≤ 200 * 16 := (Int.mul_le_mul (by omega) (by omega) (by omega) (by omega)); have hdec : decide (((G : Int) - 1) * (natI ts).length < (insT own (natI ts) own.length : Nat)) = true := decide_eq_true (by rw [hnt]; have : (((G - 1) * ts.length : Nat) : Int) = ((G : Int) - 1) * ts.length := (by rw [Int.natCast_mul]; congr 1; omega); omega); have hlt16 : (natI ts).length ≤ 16 := (by rw [hnt]; exact z5); clear z1 z2 z3 z5 hnt)
        | (go_at_call 26; refine (set_yes (by omega) j6 Z2.out).mono ?_; rintro e w7 ⟨rfl, n7, rfl⟩; have p7 := p6.below (below_drewN n7); have j7 := j6.drewN n7; have b12 := b11.trans (below_drewN n7); clear p6 j6 b11)
        | (go_at_call 30; refine (Inside_any A1 A3 c1 c3 own (natI ts) _ (by omega) (by omega) p7 j7).mono ?_; rintro e w8 ⟨rfl, rfl⟩)
        | (go_at_call 18; refine (awake_any _).mono ?_; rintro e w9 ⟨rfl, b13⟩))
      go_ret
      exact ⟨rfl, b12.trans (b13.mono b12.size)⟩
end Go.Proofs.Ytmfpegadcecknaa
