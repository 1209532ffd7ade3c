/- Rings that are joined elsewhere: their fair cuts. -/
import Derived.Test.YtopeppnajbnfgaaJD
namespace Go.Proofs.Ytopeppnajbnfgaa
open Go.RowKit
set_option maxHeartbeats 1000000
set_option maxRecDepth 100000
/-- One chain is the other, begun at k. -/
structure Rot (s u : ByteArray) (k : Nat) : Prop where
  size : u.size = s.size
  le : k ≤ s.size
  lo : ∀ p c, p ≤ s.size - k → cnt u p c = cnt s (k + p) c - cnt s k c
  hi : ∀ p c, p ≤ k → cnt u (s.size - k + p) c = cnt s s.size c - cnt s k c + cnt s p c
theorem rot_of (s : ByteArray) {k : Nat} (hk : k ≤ s.size) : Rot s (s.extract k s.size ++ s.extract 0 k) k := by
  have z1 : (s.extract k s.size).size = s.size - k := by rw [ByteArray.size_extract]; omega
  have z2 : (s.extract 0 k).size = k := by rw [ByteArray.size_extract]; omega
  refine ⟨by rw [ByteArray.size_append, z1, z2]; omega, hk, fun p c hp => ?_, fun p c hp => ?_⟩
  · rw [cnt_app_left c p (by omega), cnt_ext (Nat.le_refl _) c p (by omega)]
  · have h := cnt_app_right (a := s.extract k s.size) (b := s.extract 0 k) c p
    rw [z1] at h
    rw [h, cnt_ext (Nat.le_refl _) c _ (by omega), cnt_ext hk c p (by omega), show k + (s.size - k) = s.size by omega, Nat.zero_add]
    have : cnt s 0 c = 0 := rfl
    omega
theorem Rot.symm {s u : ByteArray} {k : Nat} (h : Rot s u k) : Rot u s (s.size - k) := by
  have hk := h.le
  have hm : ∀ c, cnt u (s.size - k) c = cnt s s.size c - cnt s k c := fun c => by
    rw [h.lo _ c (Nat.le_refl _), show k + (s.size - k) = s.size by omega]
  refine ⟨h.size.symm, by rw [h.size]; omega, fun p c hp => ?_, fun p c hp => ?_⟩
  · rw [h.size] at hp
    rw [h.hi p c (by omega), hm]; omega
  · rw [h.size, show s.size - (s.size - k) + p = k + p by omega]
    have h1 := h.hi k c (Nat.le_refl _)
    rw [show s.size - k + k = s.size by omega] at h1
    rw [h1, hm, h.lo p c hp]; omega
theorem Rot.all {s u : ByteArray} {k : Nat} (h : Rot s u k) (c : Nat) : cnt u u.size c = cnt s s.size c := by
  have h1 := h.hi k c (Nat.le_refl _)
  have := h.le
  rw [show s.size - k + k = s.size by omega] at h1
  rw [h.size, h1]; omega
theorem Rot.ev {s u : ByteArray} {k : Nat} (h : Rot s u k) (he : evV s = true) : evV u = true := by
  rw [evV_iff] at he ⊢
  intro c hc
  rw [h.all]; exact he c hc
/-- Where a place of the ring is now. -/
theorem Rot.at {s u : ByteArray} {k : Nat} (h : Rot s u k) : (∀ p, k ≤ p → p ≤ s.size → ∀ c, cnt u (p - k) c = cnt s p c - cnt s k c) ∧ ∀ p, p ≤ k → ∀ c, cnt u (p + (s.size - k)) c = cnt s s.size c - cnt s k c + cnt s p c := by
  refine ⟨fun p h1 h2 c => ?_, fun p h1 c => ?_⟩
  · rw [h.lo (p - k) c (by omega), show k + (p - k) = p by omega]
  · rw [Nat.add_comm, h.hi p c h1]
theorem fair2 {s : ByteArray} {a b : Nat} (h1 : a ≤ b) (h2 : b ≤ s.size) : fairV s [(a : Int), (b : Int)] = true ↔ ∀ c, c < 4 → cnt s b c - cnt s a c = cnt s s.size c / 2 := by
  rw [fair_pad (x := [(a : Int), (b : Int)]) (m := 2) (a := a) (b := b) (d := s.size) (e := s.size) (by omega) ⟨h1, h2, Nat.le_refl _, Nat.le_refl _, rfl, fun h => by omega, fun h => by omega, fun _ => rfl, fun _ => rfl⟩]
  refine forall_congr' fun c => forall_congr' fun _ => ?_
  omega
theorem fair4 {s : ByteArray} {a b d e : Nat} (h1 : a ≤ b) (h2 : b ≤ d) (h3 : d ≤ e) (h4 : e ≤ s.size) : fairV s [(a : Int), (b : Int), (d : Int), (e : Int)] = true ↔ ∀ c, c < 4 → cnt s b c - cnt s a c + (cnt s e c - cnt s d c) = cnt s s.size c / 2 :=
  fair_pad (m := 4) (a := a) (b := b) (d := d) (e := e) (by omega) ⟨h1, h2, h3, h4, rfl, fun h => by omega, fun h => by omega, fun h => by omega, fun h => by omega⟩
theorem asc2 {n a b : Nat} (h1 : a < b) (h2 : b < n) : AscL n 2 0 [(a : Int), (b : Int)] := asc_cons (by omega) (by omega) (asc_cons (by omega) h2 rfl)
theorem asc4 {n a b d e : Nat} (h1 : a < b) (h2 : b < d) (h3 : d < e) (h4 : e < n) : AscL n 4 0 [(a : Int), (b : Int), (d : Int), (e : Int)] :=
  asc_cons (by omega) (by omega) (asc_cons (by omega) (by omega) (asc_cons (by omega) (by omega) (asc_cons (by omega) h4 rfl)))
theorem rot_fair {s u : ByteArray} {k : Nat} (h : Rot s u k) (he : evV s = true) {m : Nat} {x : List Int} (hm : m ≤ 2) (hx : AscL s.size (2 * m) 0 x) (hf : fairV s x = true) : ∃ y, AscL u.size (2 * m) 0 y ∧ fairV u y = true := by
  have hev := (evV_iff s).1 he
  obtain ⟨up, dn⟩ := h.at
  have hk := h.le
  have hz := h.size
  have hall := h.all
  match m, hm, hx with
  | 0, _, hx =>
    have hx : x = [] := hx
    subst hx
    have hf1 := (fair_pad (m := 0) (a := s.size) (b := s.size) (d := s.size) (e := s.size) (by omega) ⟨by omega, by omega, by omega, by omega, rfl, fun _ => rfl, fun _ => rfl, fun _ => rfl, fun _ => rfl⟩).1 hf
    refine ⟨[], rfl, (fair_pad (m := 0) (x := []) (a := u.size) (b := u.size) (d := u.size) (e := u.size) (by omega) ⟨by omega, by omega, by omega, by omega, rfl, fun _ => rfl, fun _ => rfl, fun _ => rfl, fun _ => rfl⟩).2 fun c hc => ?_⟩
    have := hf1 c hc
    rw [hall c]; omega
  | 1, _, ⟨i, y, h1, h2, j, y2, h3, h4, h5⟩ =>
    have h5 : y2 = [] := h5
    subst h5 h4 h2
    generalize 0 + i = a at *
    generalize hb : a + 1 + j = b at *
    have hf1 := (fair2 (by omega) (by omega)).1 hf
    by_cases c1 : k ≤ a
    · refine ⟨_, asc2 (a := a - k) (b := b - k) (by omega) (by omega), (fair2 (by omega) (by omega)).2 fun c hc => ?_⟩
      have := hf1 c hc
      rw [up a c1 (by omega), up b (by omega) (by omega), hall]; omega
    · by_cases c2 : k ≤ b
      · refine ⟨_, asc2 (a := b - k) (b := a + (s.size - k)) (by omega) (by omega), (fair2 (by omega) (by omega)).2 fun c hc => ?_⟩
        have := hf1 c hc
        have := hev c hc
        rw [dn a (by omega), up b (by omega) (by omega), hall]; omega
      · refine ⟨_, asc2 (a := a + (s.size - k)) (b := b + (s.size - k)) (by omega) (by omega), (fair2 (by omega) (by omega)).2 fun c hc => ?_⟩
        have := hf1 c hc
        rw [dn a (by omega), dn b (by omega), hall]; omega
  | 2, _, ⟨i, y, h1, h2, j, y2, h3, h4, l, y3, h5, h6, q, y4, h7, h8, h9⟩ =>
    have h9 : y4 = [] := h9
    subst h9 h8 h6 h4 h2
    generalize 0 + i = a at *
    generalize hb : a + 1 + j = b at *
    generalize hd : b + 1 + l = d at *
    generalize he2 : d + 1 + q = e at *
    have hf1 := (fair4 (by omega) (by omega) (by omega) (by omega)).1 hf
    by_cases c1 : k ≤ a
    · refine ⟨_, asc4 (a := a - k) (b := b - k) (d := d - k) (e := e - k) (by omega) (by omega) (by omega) (by omega), (fair4 (by omega) (by omega) (by omega) (by omega)).2 fun c hc => ?_⟩
      have := hf1 c hc
      rw [up a c1 (by omega), up b (by omega) (by omega), up d (by omega) (by omega), up e (by omega) (by omega), hall]; omega
    · by_cases c2 : k ≤ b
      · refine ⟨_, asc4 (a := b - k) (b := d - k) (d := e - k) (e := a + (s.size - k)) (by omega) (by omega) (by omega) (by omega), (fair4 (by omega) (by omega) (by omega) (by omega)).2 fun c hc => ?_⟩
        have := hf1 c hc
        have := hev c hc
        rw [dn a (by omega), up b (by omega) (by omega), up d (by omega) (by omega), up e (by omega) (by omega), hall]; omega
      · by_cases c3 : k ≤ d
        · refine ⟨_, asc4 (a := d - k) (b := e - k) (d := a + (s.size - k)) (e := b + (s.size - k)) (by omega) (by omega) (by omega) (by omega), (fair4 (by omega) (by omega) (by omega) (by omega)).2 fun c hc => ?_⟩
          have := hf1 c hc
          rw [dn a (by omega), dn b (by omega), up d (by omega) (by omega), up e (by omega) (by omega), hall]; omega
        · by_cases c4 : k ≤ e
          · refine ⟨_, asc4 (a := e - k) (b := a + (s.size - k)) (d := b + (s.size - k)) (e := d + (s.size - k)) (by omega) (by omega) (by omega) (by omega), (fair4 (by omega) (by omega) (by omega) (by omega)).2 fun c hc => ?_⟩
            have := hf1 c hc
            have := hev c hc
            rw [dn a (by omega), dn b (by omega), dn d (by omega), up e (by omega) (by omega), hall]; omega
          · refine ⟨_, asc4 (a := a + (s.size - k)) (b := b + (s.size - k)) (d := d + (s.size - k)) (e := e + (s.size - k)) (by omega) (by omega) (by omega) (by omega), (fair4 (by omega) (by omega) (by omega) (by omega)).2 fun c hc => ?_⟩
            have := hf1 c hc
            rw [dn a (by omega), dn b (by omega), dn d (by omega), dn e (by omega), hall]; omega
/-- A ring that is joined elsewhere needs as many cuts. -/
theorem rot_few {s u : ByteArray} {k : Nat} (h : Rot s u k) (hs : chV s = true) (hu : chV u = true) (he : evV s = true) {x y : List Int} (hx : fewV s 0 2 = some x) (hy : fewV u 0 2 = some y) : x.length = y.length := by
  have key : ∀ {s u : ByteArray} {k : Nat} {x y : List Int}, Rot s u k → chV s = true → chV u = true → evV s = true → fewV s 0 2 = some x → fewV u 0 2 = some y → y.length ≤ x.length := by
    intro s u k x y h hs hu he hx hy
    obtain ⟨x', k1, e1, l1, b1, a1, f1, _⟩ := ring_some hs he
    rw [hx] at e1; injection e1 with e1; subst e1
    obtain ⟨y', k2, e2, l2, _, _, _, n2⟩ := ring_some hu (h.ev he)
    rw [hy] at e2; injection e2 with e2; subst e2
    have hk4 := kin_le s
    rw [l1] at a1
    obtain ⟨z, hz1, hz2⟩ := rot_fair h he (by omega) a1 f1
    apply Nat.le_of_not_lt
    intro hlt
    have h3 := n2 k1 (by omega) z (mem_exts0.2 hz1)
    rw [hz2] at h3; cases h3
  have h1 := key h hs hu he hx hy
  have h2 := key h.symm hu hs (h.ev he) hy hx
  omega
/-- A ring needs at most one cut more than its chain, and an even number. -/
theorem ring_chain {s : ByteArray} (hs : chV s = true) (he : evV s = true) {x y : List Int} (hx : fewV s 0 2 = some x) (hy : fewV s 1 1 = some y) : x.length ≤ y.length + y.length % 2 := by
  obtain ⟨x', k1, e1, l1, _, _, _, n1⟩ := ring_some hs he
  rw [hx] at e1; injection e1 with e1; subst e1
  obtain ⟨y', e2, k2, a2, f2, _⟩ := few_some hs he
  rw [hy] at e2; injection e2 with e2; subst e2
  have hk4 := kin_le s
  apply Nat.le_of_not_lt
  intro hlt
  rcases Nat.mod_two_eq_zero_or_one y.length with h | h
  · have h3 := n1 (y.length / 2) (by omega) y (mem_exts0.2 (by rw [show 2 * (y.length / 2) = y.length by omega]; exact asc_from _ 1 0 (by omega) a2))
    rw [f2] at h3; cases h3
  · have hz : 0 < s.size := by
      cases y with
      | nil => simp at h
      | cons q y =>
        obtain ⟨i, y', h1, _⟩ := a2
        omega
    have h2 := fair_zero he (by omega) a2 f2 hz
    have h3 := n1 ((y.length + 1) / 2) (by omega) _ (mem_exts0.2 (by rw [show 2 * ((y.length + 1) / 2) = y.length + 1 by omega]; exact h2.1))
    rw [h2.2] at h3; cases h3
end Go.Proofs.Ytopeppnajbnfgaa
