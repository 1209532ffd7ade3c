/- Chains turned round, and chains whose letters are renamed: their fair cuts. -/
import Derived.Test.YtopeppnajbnfgaaJD
import Derived.Test.YtopeppnajbnfgaaHP
namespace Go.Proofs.Ytopeppnajbnfgaa
open Go.RowKit
set_option maxHeartbeats 1000000
set_option maxRecDepth 100000
/-- One chain is the other in reverse order. -/
structure Rev (s t : ByteArray) : Prop where
  size : t.size = s.size
  cnt : ∀ p c, p ≤ s.size → cnt t p c = cnt s s.size c - cnt s (s.size - p) c
theorem Rev.symm {s t : ByteArray} (h : Rev s t) : Rev t s := ⟨h.size.symm, fun p c hp => by
  rw [h.size] at hp ⊢
  have h1 := h.cnt s.size c (Nat.le_refl _)
  have h2 := h.cnt (s.size - p) c (by omega)
  rw [Nat.sub_self] at h1
  rw [show s.size - (s.size - p) = p by omega] at h2
  have h3 : _root_.Go.Proofs.Ytopeppnajbnfgaa.cnt s 0 c = 0 := rfl
  omega⟩
theorem rev_of {s t : ByteArray} (hz : t.size = s.size) (h : ∀ i, i < s.size → sb t i = sb s (s.size - 1 - i)) : Rev s t := ⟨hz, fun p c => by
  induction p with
  | zero => intro _; rw [Nat.sub_zero]; show (0 : Int) = _; omega
  | succ p ih =>
    intro hp
    have ih := ih (by omega)
    have e : s.size - p = (s.size - (p + 1)) + 1 := by omega
    rw [e] at ih
    show cnt t p c + (if sb t p = 97 + c then 1 else 0) = _
    have e2 : cnt s (s.size - (p + 1) + 1) c = cnt s (s.size - (p + 1)) c + if sb s (s.size - (p + 1)) = 97 + c then 1 else 0 := rfl
    rw [e2] at ih
    rw [h p (by omega), show s.size - 1 - p = s.size - (p + 1) by omega]
    omega⟩
theorem Rev.ev {s t : ByteArray} (h : Rev s t) (he : evV s = true) : evV t = true := by
  rw [evV_iff] at he ⊢
  intro c hc
  have h1 := h.cnt s.size c (Nat.le_refl _)
  rw [Nat.sub_self] at h1
  have h3 : _root_.Go.Proofs.Ytopeppnajbnfgaa.cnt s 0 c = 0 := rfl
  have := he c hc
  rw [h.size]
  omega
def revL (n : Nat) (x : List Int) : List Int := (x.map fun y => (n : Int) - y).reverse
theorem rev_fair {s t : ByteArray} (h : Rev s t) (he : evV s = true) {m : Nat} {x : List Int} (hm : m ≤ 4) (hx : AscL s.size m 1 x) (hf : fairV s x = true) :
    AscL t.size m 1 (revL s.size x) ∧ fairV t (revL s.size x) = true := by
  have hev := (evV_iff s).1 he
  have hz := h.size
  have hc0 : ∀ c, cnt s 0 c = 0 := fun c => rfl
  have hn : ∀ c, cnt t t.size c = cnt s s.size c := fun c => by
    rw [hz, h.cnt s.size c (Nat.le_refl _), Nat.sub_self, hc0]; omega
  have hp : ∀ p c, p ≤ s.size → cnt t (s.size - p) c = cnt s s.size c - cnt s p c := fun p c hp => by
    rw [h.cnt (s.size - p) c (by omega), show s.size - (s.size - p) = p by omega]
  match m, hm, hx with
  | 0, _, hx =>
    have hx : x = [] := hx
    subst hx
    have hf1 := (fair_pad (m := 0) (a := s.size) (b := s.size) (d := s.size) (e := s.size) (by omega) ⟨by omega, by omega, by omega, by omega, rfl, fun _ => rfl, fun _ => rfl, fun _ => rfl, fun _ => rfl⟩).1 hf
    refine ⟨rfl, ?_⟩
    refine (fair_pad (m := 0) (x := []) (a := t.size) (b := t.size) (d := t.size) (e := t.size) (by omega) ⟨by omega, by omega, by omega, by omega, rfl, fun _ => rfl, fun _ => rfl, fun _ => rfl, fun _ => rfl⟩).2 fun c hc => ?_
    have := hf1 c hc
    rw [hn c]; omega
  | 1, _, ⟨i, y, h1, h2, h3⟩ =>
    have h3 : y = [] := h3
    subst h3 h2
    have hf1 := (fair_pad (m := 1) (a := 1 + i) (b := s.size) (d := s.size) (e := s.size) (by omega) ⟨by omega, by omega, by omega, by omega, rfl, fun h => by omega, fun _ => rfl, fun _ => rfl, fun _ => rfl⟩).1 hf
    have e : revL s.size [((1 + i : Nat) : Int)] = [((s.size - (1 + i) : Nat) : Int)] := by simp only [revL, List.map_cons, List.map_nil, List.reverse_cons, List.reverse_nil, List.nil_append]; congr 1; omega
    rw [e]
    refine ⟨asc_cons (by omega) (by omega) rfl, ?_⟩
    refine (fair_pad (m := 1) (a := s.size - (1 + i)) (b := t.size) (d := t.size) (e := t.size) (by omega) ⟨by omega, by omega, by omega, by omega, rfl, fun h => by omega, fun _ => rfl, fun _ => rfl, fun _ => rfl⟩).2 fun c hc => ?_
    have := hf1 c hc
    have := hev c hc
    rw [hn c, hp _ c (by omega)]; omega
  | 2, _, ⟨i, y, h1, h2, j, y2, h3, h4, h5⟩ =>
    have h5 : y2 = [] := h5
    subst h5 h4 h2
    generalize ha : 1 + i = a at *
    generalize hb : a + 1 + j = b at *
    have hf1 := (fair_pad (m := 2) (a := a) (b := b) (d := s.size) (e := s.size) (by omega) ⟨by omega, by omega, by omega, by omega, rfl, fun h => by omega, fun h => by omega, fun _ => rfl, fun _ => rfl⟩).1 hf
    have e : revL s.size [(a : Int), (b : Int)] = [((s.size - b : Nat) : Int), ((s.size - a : Nat) : Int)] := by
      rw [show ((s.size - b : Nat) : Int) = s.size - b by omega, show ((s.size - a : Nat) : Int) = s.size - a by omega]; rfl
    rw [e]
    refine ⟨asc_cons (by omega) (by omega) (asc_cons (by omega) (by omega) rfl), ?_⟩
    refine (fair_pad (m := 2) (a := s.size - b) (b := s.size - a) (d := t.size) (e := t.size) (by omega) ⟨by omega, by omega, by omega, by omega, rfl, fun h => by omega, fun h => by omega, fun _ => rfl, fun _ => rfl⟩).2 fun c hc => ?_
    have := hf1 c hc
    have := hev c hc
    rw [hn c, hp _ c (by omega), hp _ c (by omega)]; omega
  | 3, _, ⟨i, y, h1, h2, j, y2, h3, h4, k, y3, h5, h6, h7⟩ =>
    have h7 : y3 = [] := h7
    subst h7 h6 h4 h2
    generalize ha : 1 + i = a at *
    generalize hb : a + 1 + j = b at *
    generalize hd : b + 1 + k = d at *
    have hf1 := (fair_pad (m := 3) (a := a) (b := b) (d := d) (e := s.size) (by omega) ⟨by omega, by omega, by omega, by omega, rfl, fun h => by omega, fun h => by omega, fun h => by omega, fun _ => rfl⟩).1 hf
    have e : revL s.size [(a : Int), (b : Int), (d : Int)] = [((s.size - d : Nat) : Int), ((s.size - b : Nat) : Int), ((s.size - a : Nat) : Int)] := by
      rw [show ((s.size - b : Nat) : Int) = s.size - b by omega, show ((s.size - a : Nat) : Int) = s.size - a by omega, show ((s.size - d : Nat) : Int) = s.size - d by omega]; rfl
    rw [e]
    refine ⟨asc_cons (by omega) (by omega) (asc_cons (by omega) (by omega) (asc_cons (by omega) (by omega) rfl)), ?_⟩
    refine (fair_pad (m := 3) (a := s.size - d) (b := s.size - b) (d := s.size - a) (e := t.size) (by omega) ⟨by omega, by omega, by omega, by omega, rfl, fun h => by omega, fun h => by omega, fun h => by omega, fun _ => rfl⟩).2 fun c hc => ?_
    have := hf1 c hc
    have := hev c hc
    rw [hn c, hp _ c (by omega), hp _ c (by omega), hp _ c (by omega)]; omega
  | 4, _, ⟨i, y, h1, h2, j, y2, h3, h4, k, y3, h5, h6, l, y4, h7, h8, h9⟩ =>
    have h9 : y4 = [] := h9
    subst h9 h8 h6 h4 h2
    generalize ha : 1 + i = a at *
    generalize hb : a + 1 + j = b at *
    generalize hd : b + 1 + k = d at *
    generalize he2 : d + 1 + l = e at *
    have hf1 := (fair_pad (m := 4) (a := a) (b := b) (d := d) (e := e) (by omega) ⟨by omega, by omega, by omega, by omega, rfl, fun h => by omega, fun h => by omega, fun h => by omega, fun h => by omega⟩).1 hf
    have e3 : revL s.size [(a : Int), (b : Int), (d : Int), (e : Int)] = [((s.size - e : Nat) : Int), ((s.size - d : Nat) : Int), ((s.size - b : Nat) : Int), ((s.size - a : Nat) : Int)] := by
      rw [show ((s.size - b : Nat) : Int) = s.size - b by omega, show ((s.size - a : Nat) : Int) = s.size - a by omega, show ((s.size - d : Nat) : Int) = s.size - d by omega, show ((s.size - e : Nat) : Int) = s.size - e by omega]; rfl
    rw [e3]
    refine ⟨asc_cons (by omega) (by omega) (asc_cons (by omega) (by omega) (asc_cons (by omega) (by omega) (asc_cons (by omega) (by omega) rfl))), ?_⟩
    refine (fair_pad (m := 4) (a := s.size - e) (b := s.size - d) (d := s.size - b) (e := s.size - a) (by omega) ⟨by omega, by omega, by omega, by omega, rfl, fun h => by omega, fun h => by omega, fun h => by omega, fun h => by omega⟩).2 fun c hc => ?_
    have := hf1 c hc
    have := hev c hc
    rw [hn c, hp _ c (by omega), hp _ c (by omega), hp _ c (by omega), hp _ c (by omega)]; omega
/-- A chain turned round needs as many cuts. -/
theorem rev_few {s t : ByteArray} (h : Rev s t) (hs : chV s = true) (ht : chV t = true) (he : evV s = true) {x y : List Int} (hx : fewV s 1 1 = some x) (hy : fewV t 1 1 = some y) : x.length = y.length := by
  have key : ∀ {s t : ByteArray} {x y : List Int}, Rev s t → chV s = true → chV t = true → evV s = true → fewV s 1 1 = some x → fewV t 1 1 = some y → y.length ≤ x.length := by
    intro s t x y h hs ht he hx hy
    obtain ⟨x', e1, k1, a1, f1, _⟩ := few_some hs he
    rw [hx] at e1; injection e1 with e1; subst e1
    obtain ⟨y', e2, k2, _, _, n2⟩ := few_some ht (h.ev he)
    rw [hy] at e2; injection e2 with e2; subst e2
    have := rev_fair h he (Nat.le_trans k1 (kin_le s)) a1 f1
    apply Nat.le_of_not_lt
    intro hlt
    have h3 := n2 x.length hlt _ (mem_exts0.2 this.1)
    rw [this.2] at h3; cases h3
  have h1 := key h hs ht he hx hy
  have h2 := key h.symm ht hs (h.ev he) hy hx
  omega
theorem cntA_rev {s t : ByteArray} (h : Rev s t) (he : evV s = true) (m : Nat) (hm : s.size = 2 * m) : cntA t m (m + 1) = cntA s m (m + 1) := by
  have hev := (evV_iff s).1 he
  have hpr : ∀ a, a ≤ m → pr t m a = pr s m (m - a) := fun a ha => by
    rw [Bool.eq_iff_iff, pr_cnt, pr_cnt]
    refine forall_congr' fun c => forall_congr' fun hc => ?_
    have h1 := h.cnt (a + m) c (by omega)
    have h2 := h.cnt a c (by omega)
    have h3 := h.cnt s.size c (Nat.le_refl _)
    rw [Nat.sub_self] at h3
    have h4 : _root_.Go.Proofs.Ytopeppnajbnfgaa.cnt s 0 c = 0 := rfl
    rw [h.size, h1, h2, h3, show s.size - (a + m) = m - a by omega, show s.size - a = m - a + m by omega]
    have := hev c hc
    omega
  have hA : ∀ (s : ByteArray) k, cntA s m k = ((List.range k).filter fun a => pr s m a).length := fun s k => by
    induction k with
    | zero => rfl
    | succ k ih =>
      rw [List.range_succ, List.filter_append, List.length_append, ← ih]
      show cntA s m k + _ = _
      congr 1
      cases hp : pr s m k <;> simp [hp]
  rw [hA, hA]
  have hr : (List.range (m + 1)).reverse = (List.range (m + 1)).map fun a => m - a := by
    apply List.ext_getElem (by simp)
    intro i h1 h2
    simp
  have e1 : ((List.range (m + 1)).filter fun a => pr s m a).length = (((List.range (m + 1)).map fun a => m - a).filter fun a => pr s m a).length := by
    rw [← hr, List.filter_reverse, List.length_reverse]
  rw [e1, List.filter_map, List.length_map]
  congr 1
  refine List.filter_congr fun a ha => ?_
  have := List.mem_range.1 ha
  exact hpr a (by omega)
theorem wL_rev {s t : ByteArray} (h : Rev s t) (hs : chV s = true) (ht : chV t = true) (he : evV s = true) : wL s 2 [] 1 = wL t 2 [] 1 := by
  have ho := (of_decide_eq_true hs).2
  have ho' := (of_decide_eq_true ht).2
  have hh := (half_sum ho he).1
  have hz := h.size
  rcases Nat.eq_zero_or_pos (s.size / 2) with h0 | h0
  · have e : s.size = 0 := by omega
    unfold wL exts
    rw [hz, e]; rfl
  · have a1 := halves_count ho he h0
    have a2 := halves_count ho' (h.ev he) (by rw [hz]; exact h0)
    have b1 := ways_one ho he h0
    have b2 := ways_one ho' (h.ev he) (by rw [hz]; exact h0)
    have c1 := cntA_rev h he (s.size / 2) hh
    have c2 : pr t (t.size / 2) 0 = pr s (s.size / 2) 0 := by
      rw [← pr_ends ho he, hz, Bool.eq_iff_iff, pr_cnt, pr_cnt]
      have hev := (evV_iff s).1 he
      refine forall_congr' fun c => forall_congr' fun hc => ?_
      have h1 := h.cnt (0 + s.size / 2) c (by omega)
      have h2 := h.cnt 0 c (by omega)
      have h3 := h.cnt s.size c (Nat.le_refl _)
      rw [Nat.sub_self] at h3
      have h4 : _root_.Go.Proofs.Ytopeppnajbnfgaa.cnt s 0 c = 0 := rfl
      rw [hz, h1, h2, h3, show s.size - (0 + s.size / 2) = s.size / 2 by omega, show s.size - 0 = s.size by omega, show s.size / 2 + s.size / 2 = s.size by omega]
      have := hev c hc
      omega
    rw [hz] at a2 b2 c2
    rw [c2, ← b1] at b2
    omega
/-- The letters of one chain are those of the other, renamed in a cycle. -/
structure Ren (s u : ByteArray) (m : Nat) : Prop where
  size : u.size = s.size
  cnt : ∀ p c, p ≤ s.size → c < 4 → cnt u p ((c + m) % 4) = cnt s p c
theorem ren_of {s u : ByteArray} {m : Nat} (_hm : m < 4) (ho : ∀ i, i < s.size → okC s i) (hz : u.size = s.size) (h : ∀ i, i < s.size → sb u i = 97 + (sb s i - 97 + m) % 4) : Ren s u m := ⟨hz, fun p c => by
  induction p with
  | zero => intro _ _; rfl
  | succ p ih =>
    intro hp hc
    have ih := ih (by omega) hc
    show cnt u p ((c + m) % 4) + (if sb u p = 97 + (c + m) % 4 then 1 else 0) = cnt s p c + (if sb s p = 97 + c then 1 else 0)
    rw [ih, h p (by omega)]
    have := ho p (by omega)
    unfold okC at this
    congr 1
    by_cases e : sb s p = 97 + c
    · rw [if_pos e, if_pos (by omega)]
    · rw [if_neg e, if_neg (by omega)]⟩
theorem ren_all {P Q : Nat → Prop} {m : Nat} (hm : m < 4) (h : ∀ c, c < 4 → (P ((c + m) % 4) ↔ Q c)) : (∀ c, c < 4 → P c) ↔ ∀ c, c < 4 → Q c := by
  constructor
  · intro hp c hc; exact (h c hc).1 (hp _ (by omega))
  · intro hq c hc
    have := (h ((c + 4 - m) % 4) (by omega)).2 (hq _ (by omega))
    rwa [show ((c + 4 - m) % 4 + m) % 4 = c by omega] at this
theorem Ren.ev {s u : ByteArray} {m : Nat} (h : Ren s u m) (hm : m < 4) : evV u = evV s := by
  rw [Bool.eq_iff_iff, evV_iff, evV_iff]
  refine ren_all hm fun c hc => ?_
  rw [h.size, h.cnt _ c (Nat.le_refl _) hc]
theorem ren_fair {s u : ByteArray} {m : Nat} (h : Ren s u m) (hm : m < 4) {k f : Nat} (hf : f ≤ 1) {x : List Int} (hk : k ≤ 4) (hx : AscL s.size k f x) : fairV u x = fairV s x := by
  have hx : AscL s.size k 0 x := asc_from k f 0 (by omega) hx
  obtain ⟨a, b, d, e, hP⟩ := pad0 hk hx
  have hP2 : Pad u.size k x a b d e := by rw [h.size]; exact hP
  rw [Bool.eq_iff_iff, fair_pad hk hP, fair_pad hk hP2]
  obtain ⟨p1, p2, p3, p4, _⟩ := hP
  refine ren_all (P := fun c => cnt u b c - cnt u a c + (cnt u e c - cnt u d c) = cnt u u.size c / 2) hm fun c hc => ?_
  rw [h.size, h.cnt _ c (by omega) hc, h.cnt _ c (by omega) hc, h.cnt _ c (by omega) hc, h.cnt _ c (by omega) hc, h.cnt _ c (by omega) hc]
theorem find_same {p q : List Int → Bool} : ∀ (L : List (List Int)), (∀ x ∈ L, p x = q x) → L.find? p = L.find? q
  | [], _ => rfl
  | x :: L, h => by
    rw [List.find?_cons, List.find?_cons, h x (by simp), find_same L fun y hy => h y (List.mem_cons_of_mem _ hy)]
theorem fewL_same {s u : ByteArray} {f step : Nat} (hz : u.size = s.size) (h : ∀ k, k ≤ 4 → ∀ x ∈ exts s.size k [] f, fairV u x = fairV s x) : ∀ r m, fewL u f step r m = fewL s f step r m
  | 0, _ => rfl
  | r + 1, m => by
    unfold fewL
    by_cases h4 : 4 < m
    · rw [if_pos h4, if_pos h4]
    · rw [if_neg h4, if_neg h4, hz, find_same _ (h m (by omega)), fewL_same hz h r (m + step)]
theorem ren_few {s u : ByteArray} {m : Nat} (h : Ren s u m) (hm : m < 4) {f : Nat} (hf : f ≤ 1) (step : Nat) : fewV u f step = fewV s f step :=
  fewL_same h.size (fun _ hk _ hx => ren_fair h hm hf hk (mem_exts0.1 hx)) 6 0
end Go.Proofs.Ytopeppnajbnfgaa
