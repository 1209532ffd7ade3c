/- ClockRenamed for every input. -/
import Derived.Test.YtignbpipdfjkeaaDoorDG
namespace Go.Proofs.YtignbpipdfjkeaaDoor
open Go.RowKit Go.PlainAid
set_option maxHeartbeats 2000000
set_option maxRecDepth 100000
theorem clockRenamed_any (A : Option Addr) (c : Nat) (L : List (List Int)) (B : Option Addr) (d : Nat) (L2 : List (List Int)) (C : Option Addr) (e : Nat) (K : List Int) (w : World) (ht : TabW w) (hx : L.length ≤ c) (hc : c ≤ maxLen) (ha : RowsIn w A L)
    (hx2 : L2.length ≤ d) (hd : d ≤ maxLen) (hb : RowsIn w B L2) (hx3 : K.length ≤ e) (he : e ≤ maxLen) (hC : IntsAt w C K) :
    Calls Tryd.prog 14 #[.slice A L.length c, .slice B L2.length d, .slice C K.length e] w fun e w' => e = .returned (.bool true) ∧ Below w.heap.size w w' := by
  obtain ⟨M, hM, hT⟩ := tame_any A c L w hx hc ha
  obtain ⟨O, hO, hT2⟩ := tame_any B d L2 w hx2 hd hb
  have hlt := fun q (hq : q < nS M) => ordO_lt K hq
  have hin := fun p q (hp : p < nS M) (hq : q < nS M) e => ordO_inj K hp hq e
  obtain ⟨hY, hYn, hYl, hI⟩ := yM_ok hM (o := ordO K (nS M)) hlt hin
  have hrk := rk_iso hM hY hYn.symm hYl.symm hI
  have hrs := rs_iso hM hY hYn.symm hYl.symm hI
  have hsm : smB M (yM (ordO K (nS M)) M (nS M)) = true := (smB_iff hM hY).2 ⟨hYn.symm, hYl.symm, _, hI⟩
  have HAW := Lib.hid (fun (V : World) (hV : Below w.heap.size w V) => awake_any V (ht.below hV ht.lt))
  have HSY := Lib.hid (fun (V : World) A c B d (hV : Below w.heap.size w V) ha hb => by
    have := Same_yes A B c d M _ V hM hY ha hb (ht.below hV ht.lt)
    rw [hYl, hsm] at this
    exact this)
  have HSZ := Lib.hid (fun (V : World) A c B d (hV : Below w.heap.size w V) ha hb => Same_yes A B c d M O V hM hO ha hb (ht.below hV ht.lt))
  have HZS := Lib.hid (fun (V : World) A c B d (hV : Below w.heap.size w V) ha hb => by
    have := Same_yes B A d c O M V hO hM hb ha (ht.below hV ht.lt)
    rw [smB_symm hO hM] at this
    exact this)
  have HKX := Lib.hid (fun (V : World) A c (hV : Below w.heap.size w V) ha => Rank_yes A c M V hM ha (ht.below hV ht.lt))
  have HKY := Lib.hid (fun (V : World) A c (hV : Below w.heap.size w V) ha => by
    have := Rank_yes A c _ V hY ha (ht.below hV ht.lt)
    rw [hYl, hrk] at this
    exact this)
  have HKZ := Lib.hid (fun (V : World) A c (hV : Below w.heap.size w V) ha => Rank_yes A c O V hO ha (ht.below hV ht.lt))
  have HRX := fun (V : World) A c (hV : Below w.heap.size w V) ha => Reset_yes A c M V hM ha (ht.below hV ht.lt)
  have HRY := fun (V : World) A c (hV : Below w.heap.size w V) ha => Reset_yes A c _ V hY ha (ht.below hV ht.lt)
  rw [hYl, hrs] at HRY
  have hs : smB M O = true → (rkX O).1 = (rkX M).1 := fun h => by rw [rk_same hM hO h]
  cases hr : rsX M with
  | none =>
    rw [hr] at HRX HRY
    exact crn_walk A B C L.length c L2.length d e K.length (nS M) (rkX M).1 (rkX O).1 (smB M O) w M O _ K ⟨#[]⟩ (wS (rkX M).2) (wS (rkX O).2) 0 0 6 hM rfl rfl (by omega) hC rfl (Lib.hid (hT w (Below.refl _ w))) (Lib.hid hT2) HAW HSY HSZ HZS (Lib.hid HRX) (Lib.hid HRY) HKX HKY HKZ hs (Lib.hid (.inl rfl))
  | some E =>
    obtain ⟨t, x⟩ := E
    rw [hr] at HRX HRY
    have hF : IsS (nS M) (2 ^ nS M - 1) := by have := Nat.two_pow_pos (nS M); unfold IsS; omega
    have hF0 : 2 ^ nS M - 1 ≠ 0 := by have := Nat.pow_le_pow_right (n := 2) (by decide) hM.n1; omega
    obtain ⟨h4, h5, h6, -⟩ := seek_some hM.isM hF hr
    have ht1 : IsS (nS M) t := by rw [← h5]; exact img_set hM.isM hF h4
    have ht2 : t ≠ 0 := by rw [← h5]; exact img_ne hM.isM hF hF0 h4
    have hz := tz_ph hM.n1 hM.n9 hlt hin ht1 ht2 (of_decide_eq_true h6)
    have hq := bits_bound ht1 (tz_in (set512 hM.n9 ht1) ht2)
    exact crn_walk A B C L.length c L2.length d e K.length (nS M) (rkX M).1 (rkX O).1 (smB M O) w M O _ K (wS x) (wS (rkX M).2) (wS (rkX O).2) (tzS t : Nat) (tzS (phS (getn (ordO K (nS M))) (nS M) t) : Nat) 0 hM rfl rfl (by omega) hC rfl (Lib.hid (hT w (Below.refl _ w))) (Lib.hid hT2) HAW HSY HSZ HZS (Lib.hid HRX) (Lib.hid HRY) HKX HKY HKZ hs
      (Lib.hid (.inr ⟨rfl, tzS t, hq, rfl, by rw [hz]⟩))
end Go.Proofs.YtignbpipdfjkeaaDoor
