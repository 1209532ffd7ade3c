/- Fair by the tally is fair by the shares. -/
import Derived.Test.YtopeppnajbnfgaaFW
namespace Go.Proofs.Ytopeppnajbnfgaa
open Go.RowKit
set_option maxHeartbeats 1000000
set_option maxRecDepth 100000
theorem sb_app_left {a b : ByteArray} {i : Nat} (h : i < a.size) : sb (a ++ b) i = sb a i := by
  have h' : i < a.data.size := h
  unfold sb
  rw [ByteArray.data_append]
  simp only [Array.getD_eq_getD_getElem?]
  rw [Array.getElem?_append_left h']
theorem sb_app_right {a b : ByteArray} {i : Nat} : sb (a ++ b) (a.size + i) = sb b i := by
  unfold sb
  rw [ByteArray.data_append]
  simp only [Array.getD_eq_getD_getElem?]
  have : a.size = a.data.size := rfl
  rw [this, Array.getElem?_append_right (by omega), Nat.add_sub_cancel_left]
theorem sb_ext {s : ByteArray} {f e i : Nat} (h : f + i < e) (he : e ≤ s.size) : sb (s.extract f e) i = sb s (f + i) := by
  unfold sb
  rw [ByteArray.data_extract]
  simp only [Array.getD_eq_getD_getElem?]
  have hs : s.size = s.data.size := rfl
  rw [Array.getElem?_extract, if_pos (by omega)]
theorem cnt_app_left {a b : ByteArray} (c : Nat) : ∀ p, p ≤ a.size → cnt (a ++ b) p c = cnt a p c
  | 0, _ => rfl
  | p + 1, h => by
    show cnt (a ++ b) p c + (if sb (a ++ b) p = 97 + c then 1 else 0) = cnt a p c + (if sb a p = 97 + c then 1 else 0)
    rw [cnt_app_left c p (by omega), sb_app_left (by omega)]
theorem cnt_app_right {a b : ByteArray} (c : Nat) : ∀ q, cnt (a ++ b) (a.size + q) c = cnt a a.size c + cnt b q c
  | 0 => by rw [Nat.add_zero, cnt_app_left c _ (Nat.le_refl _)]; simp [cnt]
  | q + 1 => by
    show cnt (a ++ b) (a.size + q) c + (if sb (a ++ b) (a.size + q) = 97 + c then 1 else 0) = cnt a a.size c + (cnt b q c + (if sb b q = 97 + c then 1 else 0))
    rw [cnt_app_right c q, sb_app_right]; omega
theorem cnt_ext {s : ByteArray} {f e : Nat} (he : e ≤ s.size) (c : Nat) : ∀ q, f + q ≤ e → cnt (s.extract f e) q c = cnt s (f + q) c - cnt s f c
  | 0, _ => by simp [cnt]
  | q + 1, h => by
    show cnt (s.extract f e) q c + (if sb (s.extract f e) q = 97 + c then 1 else 0) = (cnt s (f + q) c + (if sb s (f + q) = 97 + c then 1 else 0)) - cnt s f c
    rw [cnt_ext he c q (by omega), sb_ext (by omega) he]; omega
/-- How many of a letter there are at all. -/
def tot (s : ByteArray) (c : Nat) : Int := cnt s s.size c
theorem tot_app (a b : ByteArray) (c : Nat) : tot (a ++ b) c = tot a c + tot b c := by
  unfold tot; rw [ByteArray.size_append, cnt_app_right]
theorem tot_ext {s : ByteArray} {f e : Nat} (hf : f ≤ e) (he : e ≤ s.size) (c : Nat) : tot (s.extract f e) c = cnt s e c - cnt s f c := by
  unfold tot
  rw [ByteArray.size_extract, cnt_ext he c _ (by omega)]
  congr 2
  omega
/-- Where pieces end. -/
theorem frm_ok {s : ByteArray} {xs : List Int} (h : cutV 1 s.size xs = true) : ∀ k, k < xs.length + 1 → frm (xs ++ [(s.size : Int)]) k ≤ frm (xs ++ [(s.size : Int)]) (k + 1) ∧ frm (xs ++ [(s.size : Int)]) (k + 1) ≤ s.size := fun k hk => by
  obtain ⟨h1, h2, h3⟩ := ends_ok h k hk
  have : frm (xs ++ [(s.size : Int)]) (k + 1) = (geti (xs ++ [(s.size : Int)]) k).toNat := by unfold frm; rw [if_neg (by omega), Nat.add_sub_cancel]
  rw [this]
  omega
theorem frm_end (s : ByteArray) (xs : List Int) : frm (xs ++ [(s.size : Int)]) (xs.length + 1) = s.size := by
  unfold frm; rw [if_neg (by omega), Nat.add_sub_cancel, geti_app_last]; rfl
theorem tot_shr {s : ByteArray} {xs : List Int} (h : cutV 1 s.size xs = true) (hd c : Nat) {k : Nat} (hk : k < xs.length + 1) :
    tot (shr s (xs ++ [(s.size : Int)]) hd (k + 1)) c = tot (shr s (xs ++ [(s.size : Int)]) hd k) c + if k % 2 = hd then cnt s (frm (xs ++ [(s.size : Int)]) (k + 1)) c - cnt s (frm (xs ++ [(s.size : Int)]) k) c else 0 := by
  obtain ⟨h1, h2⟩ := frm_ok h k hk
  rw [show shr s (xs ++ [(s.size : Int)]) hd (k + 1) = if k % 2 = hd then shr s (xs ++ [(s.size : Int)]) hd k ++ s.extract (frm (xs ++ [(s.size : Int)]) k) (frm (xs ++ [(s.size : Int)]) (k + 1)) else shr s (xs ++ [(s.size : Int)]) hd k from rfl]
  split
  · rw [tot_app, tot_ext h1 h2]
  · omega
theorem tot_both {s : ByteArray} {xs : List Int} (h : cutV 1 s.size xs = true) (c : Nat) : ∀ k, k ≤ xs.length + 1 →
    tot (shr s (xs ++ [(s.size : Int)]) 0 k) c + tot (shr s (xs ++ [(s.size : Int)]) 1 k) c = cnt s (frm (xs ++ [(s.size : Int)]) k) c
  | 0, _ => by simp [shr, tot, frm, cnt]
  | k + 1, hk => by
    have ih := tot_both h c k (by omega)
    rw [tot_shr h 0 c (by omega), tot_shr h 1 c (by omega)]
    rcases Nat.mod_two_eq_zero_or_one k with h2 | h2
    · rw [if_pos h2, if_neg (by omega)]; omega
    · rw [if_neg (by omega), if_pos h2]; omega
theorem tot_sum {s : ByteArray} {xs : List Int} (h : cutV 1 s.size xs = true) (c : Nat) : tot (shareV s xs 0) c + tot (shareV s xs 1) c = tot s c := by
  have := tot_both h c (xs.length + 1) (Nat.le_refl _)
  rw [frm_end] at this
  exact this
theorem tot_odd {s : ByteArray} {xs : List Int} (h : cutV 1 s.size xs = true) (hs : s.size ≤ 24) {c : Nat} (hc : c < 4) : ∀ j, 2 * j ≤ xs.length + 1 →
    tot (shr s (xs ++ [(s.size : Int)]) 1 (2 * j)) c = geti (apP s xs (List.range j)) c
  | 0, _ => by
    have : geti Z4I c = 0 := by rcases c with _ | _ | _ | _ | c <;> first | rfl | omega
    show tot ByteArray.empty c = geti Z4I c
    rw [this]; rfl
  | j + 1, hj => by
    have ih := tot_odd h hs hc j (by omega)
    have hin : InC s xs := cutV_inC (first := 1) (by omega) h
    have hsm := apP_sm hs hin (ks := List.range j) (fun k hk => by have := List.mem_range.1 hk; omega) (by rw [List.length_range]; have := cutV_len (first := 1) (by omega) h; omega)
    rw [List.range_succ, apP_snoc, subL_at (by rw [addL_len hsm.1 rfl]; exact hc) (by exact hc), addL_at (by rw [hsm.1]; exact hc) (by exact hc), sumL_at s _ hc, sumL_at s _ hc, ← ih]
    have e : 2 * (j + 1) = 2 * j + 1 + 1 := by omega
    have e0 : ¬ (2 * j) % 2 = 1 := by omega
    have e1 : (2 * j + 1) % 2 = 1 := by omega
    rw [e, tot_shr h 1 c (by omega), tot_shr h 1 c (by omega), if_neg e0, if_pos e1]
    have f1 : frm (xs ++ [(s.size : Int)]) (2 * j + 1) = bP xs j := by
      unfold frm bP; rw [if_neg (by omega), Nat.add_sub_cancel, geti_app_left (by omega)]
    have f2 : frm (xs ++ [(s.size : Int)]) (2 * j + 1 + 1) = eP s xs j := by
      unfold frm eP; rw [if_neg (by omega), Nat.add_sub_cancel]
      split
      · rename_i h1; rw [geti_app_left h1]
      · rename_i h1
        have : 2 * j + 1 = xs.length := by omega
        rw [this, geti_app_last]; rfl
    rw [f1, f2]; omega
theorem tot_one {s : ByteArray} {xs : List Int} (h : cutV 1 s.size xs = true) (hs : s.size ≤ 24) {c : Nat} (hc : c < 4) : tot (shareV s xs 1) c = geti (apL s xs) c := by
  have h1 := tot_odd h hs hc ((xs.length + 1) / 2) (by omega)
  unfold apL shareV
  rw [← h1]
  rcases Nat.mod_two_eq_zero_or_one (xs.length + 1) with h2 | h2
  · rw [show 2 * ((xs.length + 1) / 2) = xs.length + 1 by omega]
  · have h3 : xs.length + 1 = 2 * ((xs.length + 1) / 2) + 1 := by omega
    have h4 := tot_shr h 1 c (k := 2 * ((xs.length + 1) / 2)) (by omega)
    rw [if_neg (by omega)] at h4
    rw [← h3] at h4
    rw [h4]; omega
def refFair (s : ByteArray) (xs : List Int) : Bool := decide (sumL (shareV s xs 0) (shareV s xs 0).size = sumL (shareV s xs 1) (shareV s xs 1).size)
theorem sumL_ext {a b : ByteArray} : sumL a a.size = sumL b b.size ↔ ∀ c, c < 4 → tot a c = tot b c := by
  constructor
  · intro h c hc
    have h1 : geti (sumL a a.size) c = geti (sumL b b.size) c := by rw [h]
    rwa [sumL_at _ _ hc, sumL_at _ _ hc] at h1
  · intro h
    exact ext_geti rfl fun c hc => by
      have hc4 : c < 4 := hc
      rw [sumL_at _ _ hc4, sumL_at _ _ hc4]; exact h c hc4
theorem fair_ref {s : ByteArray} {xs : List Int} (hs : s.size ≤ 24) (he : evV s = true) (h : cutV 1 s.size xs = true) : fairV s xs = refFair s xs := by
  unfold fairV refFair
  apply decide_eq_decide.2
  rw [sumL_ext]
  have hin : InC s xs := cutV_inC (first := 1) (by omega) h
  have hsm : Sm (apL s xs) := apP_sm hs hin (fun k hk => by have := List.mem_range.1 hk; omega) (by rw [List.length_range]; have := cutV_len (first := 1) (by omega) h; omega)
  have hev := (evV_iff s).1 he
  constructor
  · intro h1 c hc
    have h2 : geti (apL s xs) c = geti (halfL (sumL s s.size)) c := by rw [h1]
    rw [halfS_at s _ hc, ← tot_one h hs hc] at h2
    have h3 := tot_sum h c
    have h4 := hev c hc
    unfold tot at h3 h2 ⊢
    omega
  · intro h1
    refine ext_geti (by rw [hsm.1]; rfl) fun c hc => ?_
    have hc4 : c < 4 := by rw [hsm.1] at hc; exact hc
    rw [halfS_at s _ hc4, ← tot_one h hs hc4]
    have h2 := h1 c hc4
    have h3 := tot_sum h c
    have h4 := hev c hc4
    unfold tot at h3 h2 ⊢
    omega
/-- Letters of a share are letters of the chain. -/
theorem okC_app {a b : ByteArray} (ha : ∀ i, i < a.size → okC a i) (hb : ∀ i, i < b.size → okC b i) : ∀ i, i < (a ++ b).size → okC (a ++ b) i := fun i hi => by
  rw [ByteArray.size_append] at hi
  unfold okC
  by_cases h : i < a.size
  · rw [sb_app_left h]; exact ha i h
  · obtain ⟨j, rfl⟩ : ∃ j, i = a.size + j := ⟨i - a.size, by omega⟩
    rw [sb_app_right]; exact hb j (by omega)
theorem okC_ext {s : ByteArray} {f e : Nat} (h : ∀ i, i < s.size → okC s i) (he : e ≤ s.size) : ∀ i, i < (s.extract f e).size → okC (s.extract f e) i := fun i hi => by
  rw [ByteArray.size_extract] at hi
  unfold okC
  rw [sb_ext (by omega) he]; exact h _ (by omega)
theorem okC_shr {s : ByteArray} {xs : List Int} (ho : ∀ i, i < s.size → okC s i) (h : cutV 1 s.size xs = true) (hd : Nat) : ∀ k, k ≤ xs.length + 1 → ∀ i, i < (shr s (xs ++ [(s.size : Int)]) hd k).size → okC (shr s (xs ++ [(s.size : Int)]) hd k) i
  | 0, _ => fun i hi => by cases hi
  | k + 1, hk => by
    have ih := okC_shr ho h hd k (by omega)
    have h2 := (frm_ok h k (by omega)).2
    rw [show shr s (xs ++ [(s.size : Int)]) hd (k + 1) = if k % 2 = hd then shr s (xs ++ [(s.size : Int)]) hd k ++ s.extract (frm (xs ++ [(s.size : Int)]) k) (frm (xs ++ [(s.size : Int)]) (k + 1)) else shr s (xs ++ [(s.size : Int)]) hd k from rfl]
    split
    · exact okC_app ih (okC_ext ho h2)
    · exact ih
theorem okC_share {s : ByteArray} {xs : List Int} (ho : ∀ i, i < s.size → okC s i) (h : cutV 1 s.size xs = true) (hd : Nat) : ∀ i, i < (shareV s xs hd).size → okC (shareV s xs hd) i := okC_shr ho h hd _ (Nat.le_refl _)
end Go.Proofs.Ytopeppnajbnfgaa
