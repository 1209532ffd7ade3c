/- Chains in groups: the counts. -/
import Derived.Test.YtopeppnajbnfgaaGC
namespace Go.Proofs.Ytopeppnajbnfgaa
open Go.RowKit
set_option maxHeartbeats 1000000
set_option maxRecDepth 100000
/-- Ascending positions from f on, so many of them, below n. -/
def AscL (n : Nat) : Nat → Nat → List Int → Prop
  | 0, _, y => y = []
  | k + 1, f, y => ∃ i y', f + i < n ∧ y = ((f + i : Nat) : Int) :: y' ∧ AscL n k (f + i + 1) y'
theorem mem_exts {n : Nat} {x : List Int} : ∀ (k : Nat) (p : List Int) (f : Nat), x ∈ exts n k p f ↔ ∃ y, x = p ++ y ∧ AscL n k f y
  | 0, p, f => by
    show x ∈ [p] ↔ _
    constructor
    · intro h; exact ⟨[], by simpa using h, rfl⟩
    · rintro ⟨y, rfl, h⟩
      have h : y = [] := h
      subst h; simp
  | k + 1, p, f => by
    show x ∈ (List.range (n - f)).flatMap (fun i => exts n k (p ++ [((f + i : Nat) : Int)]) (f + i + 1)) ↔ _
    rw [List.mem_flatMap]
    constructor
    · rintro ⟨i, hi, h⟩
      obtain ⟨y, rfl, h2⟩ := (mem_exts k _ _).1 h
      have := List.mem_range.1 hi
      exact ⟨((f + i : Nat) : Int) :: y, by simp, i, y, by omega, rfl, h2⟩
    · rintro ⟨y, rfl, i, y', hi, rfl, h2⟩
      exact ⟨i, List.mem_range.2 (by omega), (mem_exts k _ _).2 ⟨y', by simp, h2⟩⟩
theorem mem_exts0 {n k f : Nat} {x : List Int} : x ∈ exts n k [] f ↔ AscL n k f x := by
  rw [mem_exts]
  constructor
  · rintro ⟨y, rfl, h⟩; exact h
  · intro h; exact ⟨x, rfl, h⟩
theorem apP_at {s : ByteArray} {xs : List Int} {ks : List Nat} {k c : Nat} (h : (apP s xs ks).length = 4) (hc : c < 4) : (apP s xs (ks ++ [k])).length = 4 ∧ geti (apP s xs (ks ++ [k])) c = geti (apP s xs ks) c + cnt s (eP s xs k) c - cnt s (bP xs k) c := by
  rw [apP_snoc]
  exact ⟨subL_len (addL_len h rfl) rfl, by rw [subL_at (by rw [addL_len h rfl]; exact hc) (by exact hc), addL_at (by rw [h]; exact hc) (by exact hc), sumL_at s _ hc, sumL_at s _ hc]⟩
theorem zat {c : Nat} (hc : c < 4) : geti Z4I c = 0 := by rcases c with _ | _ | _ | _ | c <;> first | rfl | omega
/-- At most four cuts, filled up with the end. -/
def Pad (n m : Nat) (x : List Int) (a b d e : Nat) : Prop :=
  a ≤ b ∧ b ≤ d ∧ d ≤ e ∧ e ≤ n ∧ x = ([(a : Int), (b : Int), (d : Int), (e : Int)].take m) ∧ (m ≤ 0 → a = n) ∧ (m ≤ 1 → b = n) ∧ (m ≤ 2 → d = n) ∧ (m ≤ 3 → e = n)
theorem pad_of {n m : Nat} {x : List Int} (hm : m ≤ 4) (h : AscL n m 1 x) : ∃ a b d e, Pad n m x a b d e := by
  match m, hm, h with
  | 0, _, h => exact ⟨n, n, n, n, by omega, by omega, by omega, by omega, h, fun _ => rfl, fun _ => rfl, fun _ => rfl, fun _ => rfl⟩
  | 1, _, ⟨i, y, h1, h2, h3⟩ =>
    have h3 : y = [] := h3
    subst h3
    exact ⟨1 + i, n, n, n, by omega, by omega, by omega, by omega, h2, fun h => by omega, fun _ => rfl, fun _ => rfl, fun _ => rfl⟩
  | 2, _, ⟨i, y, h1, h2, j, y2, h3, h4, h5⟩ =>
    have h5 : y2 = [] := h5
    subst h5 h4
    exact ⟨1 + i, 1 + i + 1 + j, n, n, by omega, by omega, by omega, by omega, h2, fun h => by omega, fun h => by omega, fun _ => rfl, fun _ => rfl⟩
  | 3, _, ⟨i, y, h1, h2, j, y2, h3, h4, k, y3, h5, h6, h7⟩ =>
    have h7 : y3 = [] := h7
    subst h7 h6 h4
    exact ⟨1 + i, 1 + i + 1 + j, 1 + i + 1 + j + 1 + k, n, by omega, by omega, by omega, by omega, h2, fun h => by omega, fun h => by omega, fun h => by omega, fun _ => rfl⟩
  | 4, _, ⟨i, y, h1, h2, j, y2, h3, h4, k, y3, h5, h6, l, y4, h7, h8, h9⟩ =>
    have h9 : y4 = [] := h9
    subst h9 h8 h6 h4
    exact ⟨1 + i, 1 + i + 1 + j, 1 + i + 1 + j + 1 + k, 1 + i + 1 + j + 1 + k + 1 + l, by omega, by omega, by omega, by omega, h2, fun h => by omega, fun h => by omega, fun h => by omega, fun h => by omega⟩
theorem apL_pad {s : ByteArray} {m : Nat} {x : List Int} {a b d e : Nat} (hm : m ≤ 4) (h : Pad s.size m x a b d e) {c : Nat} (hc : c < 4) :
    (apL s x).length = 4 ∧ geti (apL s x) c = cnt s b c - cnt s a c + (cnt s e c - cnt s d c) := by
  obtain ⟨-, -, -, -, rfl, h0, h1, h2, h3⟩ := h
  have z := zat hc
  match m, hm with
  | 0, _ =>
    have := h0 (by omega); have := h1 (by omega); have := h2 (by omega); have := h3 (by omega)
    subst_vars
    have e0 : apL s (List.take 0 [(s.size : Int), (s.size : Int), (s.size : Int), (s.size : Int)]) = Z4I := by simp [apL, apP]
    rw [e0, z]
    exact ⟨rfl, by omega⟩
  | 1, _ =>
    have e0 : apL s (List.take 1 [(a : Int), (b : Int), (d : Int), (e : Int)]) = apP s [(a : Int)] ([] ++ [0]) := by simp [apL, List.range_succ]
    obtain ⟨e1, e2⟩ := apP_at (s := s) (xs := [(a : Int)]) (ks := []) (k := 0) (c := c) rfl hc
    have := h1 (by omega); have := h2 (by omega); have := h3 (by omega)
    rw [e0, e2]
    refine ⟨e1, ?_⟩
    show geti Z4I c + cnt s s.size c - cnt s a c = _
    subst_vars; omega
  | 2, _ =>
    have e0 : apL s (List.take 2 [(a : Int), (b : Int), (d : Int), (e : Int)]) = apP s [(a : Int), (b : Int)] ([] ++ [0]) := by simp [apL, List.range_succ]
    obtain ⟨e1, e2⟩ := apP_at (s := s) (xs := [(a : Int), (b : Int)]) (ks := []) (k := 0) (c := c) rfl hc
    have := h2 (by omega); have := h3 (by omega)
    rw [e0, e2]
    refine ⟨e1, ?_⟩
    show geti Z4I c + cnt s b c - cnt s a c = _
    subst_vars; omega
  | 3, _ =>
    have e0 : apL s (List.take 3 [(a : Int), (b : Int), (d : Int), (e : Int)]) = apP s [(a : Int), (b : Int), (d : Int)] (([] ++ [0]) ++ [1]) := by simp [apL, List.range_succ]
    obtain ⟨e1, e2⟩ := apP_at (s := s) (xs := [(a : Int), (b : Int), (d : Int)]) (ks := []) (k := 0) (c := c) rfl hc
    obtain ⟨e3, e4⟩ := apP_at (s := s) (xs := [(a : Int), (b : Int), (d : Int)]) (ks := [] ++ [0]) (k := 1) (c := c) e1 hc
    have := h3 (by omega)
    rw [e0, e4, e2]
    refine ⟨e3, ?_⟩
    show geti Z4I c + cnt s b c - cnt s a c + cnt s s.size c - cnt s d c = _
    subst_vars; omega
  | 4, _ =>
    have e0 : apL s (List.take 4 [(a : Int), (b : Int), (d : Int), (e : Int)]) = apP s [(a : Int), (b : Int), (d : Int), (e : Int)] (([] ++ [0]) ++ [1]) := by simp [apL, List.range_succ]
    obtain ⟨e1, e2⟩ := apP_at (s := s) (xs := [(a : Int), (b : Int), (d : Int), (e : Int)]) (ks := []) (k := 0) (c := c) rfl hc
    obtain ⟨e3, e4⟩ := apP_at (s := s) (xs := [(a : Int), (b : Int), (d : Int), (e : Int)]) (ks := [] ++ [0]) (k := 1) (c := c) e1 hc
    rw [e0, e4, e2]
    refine ⟨e3, ?_⟩
    show geti Z4I c + cnt s b c - cnt s a c + cnt s e c - cnt s d c = _
    omega
theorem fair_pad {s : ByteArray} {m : Nat} {x : List Int} {a b d e : Nat} (hm : m ≤ 4) (h : Pad s.size m x a b d e) : fairV s x = true ↔ ∀ c, c < 4 → cnt s b c - cnt s a c + (cnt s e c - cnt s d c) = cnt s s.size c / 2 := by
  unfold fairV
  rw [decide_eq_true_iff]
  constructor
  · intro hh c hc
    rw [← (apL_pad hm h hc).2, hh, halfS_at s _ hc]
  · intro hh
    refine ext_geti (by rw [(apL_pad hm h (c := 0) (by omega)).1]; rfl) fun c hc => ?_
    rw [(apL_pad hm h (c := 0) (by omega)).1] at hc
    rw [(apL_pad hm h hc).2, halfS_at s _ hc, hh c hc]
/-- The first of the shortest ones, if there is only one. -/
theorem fewL_only {s : ByteArray} {f step r m : Nat} {x : List Int} (h : ¬ 4 < m) (hx : x ∈ exts s.size m [] f) (h1 : fairV s x = true) (h2 : ∀ y ∈ exts s.size m [] f, fairV s y = true → y = x) : fewL s f step (r + 1) m = some x := by
  have : (exts s.size m [] f).find? (fairV s) = some x := by
    cases hf : (exts s.size m [] f).find? (fairV s) with
    | none => rw [List.find?_eq_none] at hf; exact absurd h1 (hf x hx)
    | some y =>
      have e := h2 y (List.mem_of_find?_eq_some hf) (List.find?_some hf)
      rw [e]
  rw [show fewL s f step (r + 1) m = if 4 < m then none else match (exts s.size m [] f).find? (fairV s) with | some x => some x | none => fewL s f step r (m + step) from rfl, if_neg h, this]
/-- The chain of the groups, and the middles. -/
def grp (nn : Nat → Nat) : Nat → List UInt8
  | 0 => []
  | c + 1 => grp nn c ++ List.replicate (2 * nn c) (UInt8.ofNat (97 + c))
def pos (nn : Nat → Nat) : Nat → Nat
  | 0 => 0
  | c + 1 => pos nn c + 2 * nn c
def wnt (nn : Nat → Nat) : Nat → List Int
  | 0 => []
  | c + 1 => if nn c = 0 then wnt nn c else wnt nn c ++ [((pos nn c + nn c : Nat) : Int)]
theorem grp_len (nn : Nat → Nat) : ∀ c, (grp nn c).length = pos nn c
  | 0 => rfl
  | c + 1 => by simp [grp, pos, grp_len nn c]
theorem pos_mono (nn : Nat → Nat) {c d : Nat} (h : c ≤ d) : pos nn c ≤ pos nn d := by
  induction d with
  | zero => obtain rfl : c = 0 := by omega
            exact Nat.le_refl _
  | succ d ih =>
    rcases Nat.lt_or_ge c (d + 1) with h1 | h1
    · have := ih (by omega); simp only [pos]; omega
    · obtain rfl : c = d + 1 := by omega
      exact Nat.le_refl _
theorem grp_at (nn : Nat → Nat) : ∀ (c : Nat), c ≤ 4 → ∀ d i, d < c → pos nn d ≤ i → (h : i < (grp nn c).length) → i < pos nn (d + 1) → ((grp nn c)[i]).toNat = 97 + d
  | 0, _, d, _, hd, _, _, _ => absurd hd (by omega)
  | c + 1, hc, d, i, hd, h1, h, h2 => by
    have hl := grp_len nn c
    rcases Nat.lt_or_ge i (grp nn c).length with h3 | h3
    · have hdc : d < c := by
        rcases Nat.lt_or_ge d c with h4 | h4
        · exact h4
        · have := pos_mono nn h4; omega
      have := grp_at nn c (by omega) d i hdc h1 h3 h2
      simp only [grp]
      rw [List.getElem_append_left h3]; exact this
    · have hdc : d = c := by
        rcases Nat.lt_or_ge d c with h4 | h4
        · have := pos_mono nn (show d + 1 ≤ c by omega); omega
        · omega
      subst hdc
      simp only [grp]
      rw [List.getElem_append_right h3, List.getElem_replicate, ofNat_toNat (by omega)]
theorem pos_find (nn : Nat → Nat) {p : Nat} : ∀ c, p < pos nn c → ∃ d, d < c ∧ pos nn d ≤ p ∧ p < pos nn (d + 1)
  | 0, h => absurd h (by simp [pos])
  | c + 1, h => by
    rcases Nat.lt_or_ge p (pos nn c) with h1 | h1
    · obtain ⟨d, h2, h3, h4⟩ := pos_find nn c h1
      exact ⟨d, by omega, h3, h4⟩
    · exact ⟨c, by omega, h1, h⟩
theorem cnt_grp (nn : Nat → Nat) {c : Nat} (hc : c < 4) : ∀ p, p ≤ pos nn 4 → cnt (bs (grp nn 4)) p c = ((min (p - pos nn c) (2 * nn c) : Nat) : Int)
  | 0, _ => by simp [cnt]
  | p + 1, hp => by
    have ih := cnt_grp nn hc p (by omega)
    obtain ⟨d, h2, h3, h4⟩ := pos_find nn 4 (show p < pos nn 4 by omega)
    have hlen : p < (grp nn 4).length := by rw [grp_len]; omega
    have hs := grp_at nn 4 (by omega) d p h2 h3 hlen h4
    show cnt (bs (grp nn 4)) p c + (if sb (bs (grp nn 4)) p = 97 + c then 1 else 0) = _
    rw [ih, sb_bs hlen, hs]
    have hpc : pos nn (c + 1) = pos nn c + 2 * nn c := rfl
    rcases Nat.lt_trichotomy d c with h | h | h
    · have := pos_mono nn (show d + 1 ≤ c by omega)
      rw [if_neg (by omega)]; omega
    · subst h
      rw [if_pos rfl]; omega
    · have := pos_mono nn (show c + 1 ≤ d by omega)
      rw [if_neg (by omega)]; omega
end Go.Proofs.Ytopeppnajbnfgaa
