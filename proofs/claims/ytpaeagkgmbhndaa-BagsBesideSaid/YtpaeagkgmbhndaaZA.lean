/- Parts Q A B C M of the proof, in this order. -/
import Derived.StillTail
import Derived.Deep.Quiet
import Derived.OrdersIn
import Derived.TacticsIn
import Derived.OwnWalkIn
import Derived.Test.YtpaeagkgmbhndaaRows
import Derived.WalkKit
import Derived.WalkSpells
import Derived.WalkLawsBesides
import Derived.Lib.Hide
import Derived.Deep.QuietTactic
import Derived.BigQuiet
import Derived.KernelRfl
import Derived.RangeFuncNested
import Derived.RangeFuncBound
import Derived.RangeFuncCalls
import Derived.RangeFuncLeaves
import Derived.Shelf.Abstract
import Derived.Shelf.RegionOpen
import Derived.TacticsInMore
import Derived.LoopNIn
import Derived.LoopIn
/- A region that draws its order, whose operations but for a forced tail (a store, say) only read and call quietly, walked once: the head in the text's order over every world after some draws, then the tail. -/
namespace Go.Proofs.Ytpaeagkgmbhndaa
section
variable {P : Program} {ops : Array Oper} {md : Region.Mode} {C : World → Prop}
def headQ (P : Program) (md : Region.Mode) (ops : Array Oper) (C : World → Prop) (n : Nat) (L : Array Bool → Act → Prop) : Nat → Array Bool → Act → Prop
  | 0, d, a => L d a
  | f + 1, d, a => Region.ready md ops d ≠ [] ∧ ∀ i ∈ Region.ready md ops d, i < n ∧ qOp P ops C i (headQ P md ops C n L f (d.setIfInBounds i true)) a
theorem wpAny_of_headQ {n g : Nat} {L : Array Bool → Act → Prop} {R : Exit → Act → World → Prop} (hL : ∀ d a w, C w → L d a → wpAny P md ops R g d a w) (f : Nat) :
    ∀ (d : Array Bool) (a : Act) (w : World), C w → headQ P md ops C n L f d a → wpAny P md ops R (f + g) d a w := by
  induction f with
  | zero => intro d a w hw h; rw [Nat.zero_add]; exact hL _ _ _ hw h
  | succ f ih =>
    intro d a w hw h
    rw [Nat.succ_add]
    exact ⟨fun e => (h.1 e).elim, fun i hi => wpOp_of_qOp hw (fun a' w' hw' hh => ih _ a' w' hw' hh) (h.2 i hi).2⟩
theorem headQ_first {n i : Nat} {oi : Oper} {v : Value} {L : Array Bool → Act → Prop} (hi : ops[i]? = some oi) (hsel : ∀ (j : Nat) (o : Oper) cs b, ops[j]? = some o → o.op ≠ .select cs b)
    (hs : Region.sinkB md ops n = true) (hc : Region.chainB md ops n = true) (hn : n < ops.size) (hin : i < n) (hdone : ∀ d a, L d a → ∀ j ∈ Region.ready md ops d, n ≤ j) (f : Nat) :
    ∀ (d : Array Bool) (a : Act), HeadInv md ops n d →
      (∀ j oj, ops[j]? = some oj → j ≠ i → d.getD j true = false → (∀ e ∈ oj.after, Region.binds md e = true → e.on ≠ i) → oi.apart ops oj = true) →
      i ∈ Region.ready md ops d → YieldsIn P ops C oi v a → headQ P md ops C n L f (d.setIfInBounds i true) (a.put oi.dst v) → headQ P md ops C n L (f + 1) d a := by
  induction f with
  | zero =>
    intro d a inv _ hr hy H
    have hun := (mem_ready.1 hr).1
    refine ⟨List.ne_nil_of_mem hr, fun j hj => ?_⟩
    have hjn : j < n := (Nat.lt_or_ge j n).elim id fun h => absurd hj (tail_waits hs hc hn inv _ i rfl hin hun j h)
    refine ⟨hjn, ?_⟩
    rcases Nat.decEq j i with hji | hji
    · exact absurd (hdone _ _ H j (ready_mono hj hji)) (by omega)
    · subst hji; exact hy.qOp hi H
  | succ f ih =>
    intro d a inv hfree hr hy H
    have hun := (mem_ready.1 hr).1
    refine ⟨List.ne_nil_of_mem hr, fun j hj => ?_⟩
    have hjn : j < n := (Nat.lt_or_ge j n).elim id fun h => absurd hj (tail_waits hs hc hn inv _ i rfl hin hun j h)
    refine ⟨hjn, ?_⟩
    rcases Nat.decEq j i with hji | hji
    · have h1 := (H.2 j (ready_mono hj hji)).2
      obtain ⟨hjun, oj, hoj, hall⟩ := mem_ready.1 hj
      have hnot : ∀ e ∈ oj.after, Region.binds md e = true → e.on ≠ i := fun e he hb heq => by
        have h2 := hall e he hb
        rw [heq, getD_both hun] at h2; cases h2
      have h2 := qOp_put hoj (hfree j oj hoj hji hjun hnot) (fun cs b => hsel i oi cs b hi) (fun cs b => hsel j oj cs b hoj) hy h1
      refine qOp_mono (fun a' h3 => ih (d.setIfInBounds j true) a' (inv.set hj hjn) ?_ (ready_mono hr (Ne.symm hji)) h3.1 (by rw [Array.setIfInBounds_comm _ _ hji]; exact h3.2)) h2
      intro k ok hk hki hunk hno
      refine hfree k ok hk hki ?_ hno
      rcases Nat.decEq j k with hjk | hjk
      · rw [getD_set_ne true hjk] at hunk; exact hunk
      · subst hjk; exact hjun
    · subst hji; exact hy.qOp hi H
theorem headQ_lex {n g : Nat} {Lq : Act → Prop} (hsel : Region.noSelect ops = true) (hs : Region.sinkB md ops n = true) (hc : Region.chainB md ops n = true) (hn : n < ops.size) (l : List Oper) :
    ∀ (k : Nat) (d : Array Bool) (a : Act), (∀ j, j < l.length → l[j]? = ops[k + j]?) → k + l.length = n → HeadInv md ops n d → Region.lexHead md ops g l.length k d = true →
      wpQuiet P ops C Lq l a → headQ P md ops C n (fun d' a' => Region.seqB md ops g n d' = true ∧ Lq a') l.length d a := by
  induction l with
  | nil =>
    intro k d a _ hk _ hB h
    obtain rfl : k = n := by simpa using hk
    exact ⟨by simpa [Region.lexHead] using hB, h⟩
  | cons o l ih =>
    intro k d a hl hk inv hB h
    have h0 : ops[k]? = some o := by simpa using (hl 0 (by simp)).symm
    simp only [List.length_cons] at hk
    simp only [List.length_cons, Region.lexHead, Bool.and_eq_true] at hB
    have hr' : k ∈ Region.ready md ops d := by simpa using hB.1.1
    have hq : qOp P ops C k (wpQuiet P ops C Lq l) a := by unfold qOp; simp only [h0]; exact h
    obtain ⟨v, hy, hK⟩ := yieldsIn_of_qOp h0 hq
    refine headQ_first h0 (Region.noSelect_spec hsel) hs hc hn (by omega) (fun d' a' hL => seqB_ready hL.1) l.length d a inv (Region.free_spec h0 hB.1.2) hr' hy ?_
    refine ih (k + 1) _ _ (fun j hj => ?_) (by omega) (inv.set hr' (by omega)) hB.2 hK
    have := hl (j + 1) (by simp; omega)
    simpa [Nat.add_assoc, Nat.add_comm 1 j] using this
theorem wp_region_quiet_tail {id : Nat} {R : Exit → Act → World → Prop} {a : Act} {w : World} {l : List Oper} (n : Nat) (hm : P.follows .mixedOrders = true) (hB : Region.lexTailB .any l.toArray n = true)
    (h : wpQuiet P l.toArray (fun w' => ∃ k, w' = w.drewN k) (fun a' => ∀ w', (∃ k, w' = w.drewN k) → wpList P l.toArray R (l.drop n) a' w') (l.take n) a) : (Code.region id l.toArray true).wp P R a w := by
  simp only [Region.lexTailB, Bool.and_eq_true, decide_eq_true_eq] at hB
  obtain ⟨⟨⟨⟨hsel, hn⟩, hs⟩, hc⟩, hlex⟩ := hB
  have hn' : n < l.length := by simpa using hn
  have htl : (l.take n).length = n := by simp; omega
  have hdl : (l.drop n).length = l.toArray.size - n := by simp
  have inv0 : HeadInv .any l.toArray n (Array.replicate l.toArray.size false) :=
    ⟨by simp, fun j oj _ hl => (by rw [getD_replicate_false] at hl; cases hl), fun t _ ht => getD_in (by simpa using ht) (getD_replicate_false _ _)⟩
  have H := headQ_lex (md := .any) (g := l.toArray.size - n) hsel hs hc hn (l.take n) 0 _ a (fun j hj => by rw [htl] at hj; simp [hj]) (by simpa using htl) inv0 (by rw [htl]; exact hlex) h
  refine wp_region_any hm ?_
  have h2 := wpAny_of_headQ (C := fun w' => ∃ k, w' = w.drewN k) (R := R) (g := l.toArray.size - n) (fun d a' w' hw' hL => by
    have h3 := wpAny_of_seq (md := .any) (Q' := R) (l.drop n) n d a' w' (fun j => by simp [List.getElem?_drop]) (by rw [hdl]; exact hL.1) (hL.2 w' hw')
    rwa [hdl] at h3) _ _ _ { w with drawn := w.drawn + 1 } ⟨1, rfl⟩ H
  rw [htl, show n + (l.toArray.size - n) = l.toArray.size by omega] at h2
  exact h2
end
/-- A fence that lets everything in. -/
structure Open (F : Fence) : Prop where
  fn : ∀ f, F.fn f
  depth : F.depth = none
  alive : F.alive = false
theorem Open.fenced {F : Fence} (h : Open F) (P : Program) (m : Machine) : m.fenced P F := by
  intro g _
  refine ⟨fun e => ?_, .inl (h.fn _), fun _ _ => h.fn _, fun d e => ?_⟩
  · rw [h.alive] at e; cases e
  · rw [h.depth] at e; cases e
theorem Open.wide : Open Fence.wide := ⟨fun _ => trivial, rfl, rfl⟩
theorem Open.inRound {F : Fence} (h : Open F) (l : Nat) : Open (F.inRound l) := ⟨h.fn, h.depth, h.alive⟩
theorem Open.lift {F : Fence} (h : Open F) (n : Nat) {P : Program} {f : FuncId} {args : Array Value} {w : World} {R : Ending → World → Prop} (c : Calls P f args w R) : CallsIn F n P f args w R := by
  refine ⟨h.fn f, fun cs _ => ?_⟩
  obtain ⟨e, w', fr, r, s, x⟩ := c cs
  refine ⟨e, w', fr, r, ?_, x⟩
  cases e with
  | returned v => exact (StepsIn.of_steps s).mono fun m _ => h.fenced P m
  | panicked chain => exact (StepsIn.of_steps s).mono fun m _ => h.fenced P m
  | outgrown => exact s
/-! The same inside a fence that lets everything in, in a round too. -/
def noDefer (ops : Array Oper) : Bool := ops.all fun o => match o.op with | .defer _ => false | _ => true
theorem noDefer_spec {ops : Array Oper} (h : noDefer ops = true) {i : Nat} {o : Oper} (hi : ops[i]? = some o) : ∀ c, o.op ≠ .defer c := by
  intro c e
  unfold noDefer at h
  rw [Array.all_eq_true] at h
  obtain ⟨hlt, rfl⟩ := Array.getElem?_eq_some_iff.1 hi
  have := h i hlt
  rw [e] at this
  cases this
section
variable {P : Program} {ops : Array Oper} {md : Region.Mode} {C : World → Prop} {F : Fence} {m : Nat}
theorem wpIn_of_quiet (hO : Open F) {o : Oper} (hd : ∀ c, o.op ≠ .defer c) {a : Act} {K : Act → Prop} {K' : Act → World → Prop} {R : Exit → Act → World → Prop} {w : World} (hw : C w) (h : ∀ a w', C w' → K a → K' a w')
    (hh : o.quiet P a C K) : o.wpIn F m P a w K' R := by
  obtain ⟨v, h1, h2⟩ := hh
  have h3 := h1 w hw
  refine ⟨fun _ _ => hO.fn _, ?_⟩
  rw [Oper.semAt_eq _ _ _ hd]
  unfold Oper.quietAt at h3
  generalize (execOp a.eval o).run P w = r at *
  cases r with
  | halt x w' => exact h3.elim
  | ok nx w' =>
    cases nx <;> simp only [Oper.quietUpon] at h3 <;> simp only [Oper.uponIn]
    case value u => obtain ⟨rfl, rfl⟩ := h3; exact h _ _ hw h2
    case skip => obtain ⟨rfl, rfl⟩ := h3; exact h _ _ hw h2
    case enter f args =>
      obtain ⟨rfl, hc⟩ := h3
      refine ⟨fun e => (by rw [hO.depth] at e; cases e), hO.lift _ (hc.mono ?_)⟩
      rintro e w'' ⟨rfl, hw''⟩
      exact h _ _ hw'' h2
theorem wpOpIn_of_qOp (hO : Open F) (hD : noDefer ops = true) {i : Nat} {a : Act} {K : Act → Prop} {K' : Act → World → Prop} {R : Exit → Act → World → Prop} {w : World} (hC : C w) (h : ∀ a w', C w' → K a → K' a w')
    (hh : qOp P ops C i K a) : wpOpIn F m P ops R i K' a w := by
  unfold qOp at hh
  unfold wpOpIn
  cases ho : ops[i]? with
  | none => simp only [ho] at hh; exact h _ _ hC hh
  | some o =>
    simp only [ho] at hh
    by_cases hw : Region.wanted o (yielded ops a.tmps) = true
    · simp only [hw, if_true] at hh ⊢; exact wpIn_of_quiet hO (noDefer_spec hD ho) hC h hh
    · simp only [hw] at hh ⊢; exact ⟨fun _ _ => hO.fn _, h _ _ hC hh⟩
theorem wpAnyIn_of_headQ (hO : Open F) (hD : noDefer ops = true) {n g : Nat} {L : Array Bool → Act → Prop} {R : Exit → Act → World → Prop} (hL : ∀ d a w, C w → L d a → wpAnyIn F m P md ops R g d a w) (f : Nat) :
    ∀ (d : Array Bool) (a : Act) (w : World), C w → headQ P md ops C n L f d a → wpAnyIn F m P md ops R (f + g) d a w := by
  induction f with
  | zero => intro d a w hw h; rw [Nat.zero_add]; exact hL _ _ _ hw h
  | succ f ih =>
    intro d a w hw h
    rw [Nat.succ_add]
    exact ⟨fun e => (h.1 e).elim, fun i hi => wpOpIn_of_qOp hO hD hw (fun a' w' hw' hh => ih _ a' w' hw' hh) (h.2 i hi).2⟩
theorem wpAnyIn_of_seq {R : Exit → Act → World → Prop} (l : List Oper) : ∀ (k : Nat) (d : Array Bool) (a : Act) (w : World), (∀ j, l[j]? = ops[k + j]?) →
    Region.seqB md ops l.length k d = true → wpListIn F m P ops R l a w → wpAnyIn F m P md ops R l.length d a w := by
  induction l with
  | nil => intro k d a w _ hB h; exact ⟨by simpa [Region.seqB] using hB, h⟩
  | cons o l ih =>
    intro k d a w hl hB h
    have h0 : ops[k]? = some o := by simpa using (hl 0).symm
    simp only [List.length_cons, Region.seqB, Bool.and_eq_true, decide_eq_true_eq] at hB
    refine ⟨fun h1 => (by rw [hB.1] at h1; cases h1), fun i hi => ?_⟩
    rw [hB.1] at hi
    obtain rfl : i = k := by simpa using hi
    have hw : wpOpIn F m P ops R i (wpListIn F m P ops R l) a w := by unfold wpOpIn; simp only [h0]; exact h
    exact wpOpIn_mono (fun a' w' h' => ih (i + 1) _ a' w' (fun j => by have := hl (j + 1); simpa [Nat.add_assoc, Nat.add_comm 1 j] using this) hB.2 h') hw
theorem wpIn_region_quiet_tail (hO : Open F) {id : Nat} {R : Exit → Act → World → Prop} {a : Act} {w : World} {l : List Oper} (n : Nat) (hm : P.follows .mixedOrders = true) (hD : noDefer l.toArray = true)
    (hB : Region.lexTailB .any l.toArray n = true)
    (h : wpQuiet P l.toArray (fun w' => ∃ k, w' = w.drewN k) (fun a' => ∀ w', (∃ k, w' = w.drewN k) → wpListIn F m P l.toArray R (l.drop n) a' w') (l.take n) a) : (Code.region id l.toArray true).wpIn F m P R a w := by
  simp only [Region.lexTailB, Bool.and_eq_true, decide_eq_true_eq] at hB
  obtain ⟨⟨⟨⟨hsel, hn⟩, hs⟩, hc⟩, hlex⟩ := hB
  have hn' : n < l.length := by simpa using hn
  have htl : (l.take n).length = n := by simp; omega
  have hdl : (l.drop n).length = l.toArray.size - n := by simp
  have inv0 : HeadInv .any l.toArray n (Array.replicate l.toArray.size false) :=
    ⟨by simp, fun j oj _ hl => (by rw [getD_replicate_false] at hl; cases hl), fun t _ ht => getD_in (by simpa using ht) (getD_replicate_false _ _)⟩
  have H := headQ_lex (md := .any) (g := l.toArray.size - n) hsel hs hc hn (l.take n) 0 _ a (fun j hj => by rw [htl] at hj; simp [hj]) (by simpa using htl) inv0 (by rw [htl]; exact hlex) h
  refine wpIn_region_any hm ?_
  have h2 := wpAnyIn_of_headQ (C := fun w' => ∃ k, w' = w.drewN k) (R := R) (m := m) hO hD (g := l.toArray.size - n) (fun d a' w' hw' hL => by
    have h3 := wpAnyIn_of_seq (F := F) (m := m) (P := P) (md := .any) (R := R) (l.drop n) n d a' w' (fun j => by simp [List.getElem?_drop]) (by rw [hdl]; exact hL.1) (hL.2 w' hw')
    rwa [hdl] at h3) _ _ _ { w with drawn := w.drawn + 1 } ⟨1, rfl⟩ H
  rw [htl, show n + (l.toArray.size - n) = l.toArray.size by omega] at h2
  exact h2
theorem wpAnyIn_of_quiet' (hO : Open F) (hD : noDefer ops = true) {K : Act → Prop} {R : Exit → Act → World → Prop} (hQ : ∀ a w, C w → K a → R .normal a w) (f : Nat) : ∀ (d : Array Bool) (a : Act) (w : World), C w →
    wpAnyQ P md ops C K f d a → wpAnyIn F m P md ops R f d a w := by
  induction f with
  | zero => intro d a w hw h; exact ⟨h.1, hQ _ _ hw h.2⟩
  | succ f ih => intro d a w hw h; exact ⟨fun h0 => hQ _ _ hw (h.1 h0), fun i hi => wpOpIn_of_qOp hO hD hw (fun a' w' hw' => ih _ a' w' hw') (h.2 i hi)⟩
theorem wpIn_region_quiet_all (hO : Open F) {id : Nat} {R : Exit → Act → World → Prop} {a : Act} {w : World} {l : List Oper} (hm : P.follows .mixedOrders = true) (hD : noDefer l.toArray = true) (hB : Region.lexB .any l.toArray = true)
    (h : wpQuiet P l.toArray (fun w' => ∃ k, w' = w.drewN k) (fun a' => ∀ w', (∃ k, w' = w.drewN k) → R .normal a' w') l a) : (Code.region id l.toArray true).wpIn F m P R a w := by
  simp only [Region.lexB, Bool.and_eq_true] at hB
  refine wpIn_region_any hm (wpAnyIn_of_quiet' (C := fun w' => ∃ k, w' = w.drewN k) hO hD (K := fun a' => ∀ w', (∃ k, w' = w.drewN k) → R .normal a' w') (fun _ w' hw' h => h w' hw') _ _ _ _ ⟨1, rfl⟩ ?_)
  have := wpAnyQ_lex (C := fun w' => ∃ k, w' = w.drewN k) (md := .any) hB.1 l 0 (Array.replicate l.toArray.size false) a (by simp) (by simpa using hB.2) h
  simpa using this
end
end Go.Proofs.Ytpaeagkgmbhndaa
/- The leaf functions of package bags: sets of vertices as bits, fractions, greatest common divisors. Conditions: sets below 2^32, vertices below 32. -/
namespace Go.Proofs.Ytpaeagkgmbhndaa
open Go.RowKit
theorem ret_int {k : IntKind} {a b : Int} (h : a = b) : Ending.returned (.int k a) = .returned (.int k b) := by rw [h]
theorem ret_bool {a b : Bool} (h : a = b) : Ending.returned (.bool a) = .returned (.bool b) := by rw [h]
def sHas (s v : Nat) : Bool := s.testBit v
def sWith (s v : Nat) : Nat := s ||| 2^v
def sWithout (s v : Nat) : Nat := s &&& (4294967295 - 2^v)
def sAnd (s t : Nat) : Nat := s &&& t
def sAndNot (s t : Nat) : Nat := s &&& (4294967295 - t)
def sAll (n : Nat) : Nat := 2^n - 1
theorem pow_lt32 {v : Nat} (h : v < 32) : 2^v < 4294967296 := by
  have : 2^v ≤ 2^31 := Nat.pow_le_pow_right (by omega) (by omega)
  omega
theorem pow_cast (v : Nat) : ((2:Int)^v) = ((2^v : Nat) : Int) := by simp
theorem pow_mod32 {v : Nat} (h : v < 32) : ((2:Int)^v % 4294967296) = ((2^v : Nat) : Int) := by
  have h1 := pow_lt32 h
  rw [pow_cast]; generalize 2^v = x at *; omega
theorem has_bits (s v : Nat) (hs : s < 4294967296) : (bits BinOp.and IntKind.u32 ((s:Int) / 2 ^ v) 1 == 1) = sHas s v := by
  have h1 : ((s:Int) / 2^v) = ((s / 2^v : Nat) : Int) := by rw [pow_cast]; rfl
  rw [h1, show (1:Int) = ((1:Nat):Int) from rfl, u32_and_nat _ _ (Nat.lt_of_le_of_lt (Nat.div_le_self _ _) hs) (by omega)]
  unfold sHas
  rw [Nat.testBit_eq_decide_div_mod_eq, Nat.and_one_is_mod]
  rw [Bool.eq_iff_iff]; simp; omega
theorem with_bits (s v : Nat) (hs : s < 4294967296) (hv : v < 32) : bits BinOp.or IntKind.u32 (s:Int) (2 ^ v % 4294967296) = (sWith s v : Int) := by
  rw [pow_mod32 hv, u32_or_nat s (2^v) hs (pow_lt32 hv)]; rfl
theorem without_bits (s v : Nat) (hs : s < 4294967296) (hv : v < 32) : bits BinOp.andNot IntKind.u32 (s:Int) (2 ^ v % 4294967296) = (sWithout s v : Int) := by
  rw [pow_mod32 hv, u32_andNot_nat s (2^v) hs (pow_lt32 hv)]; rfl
theorem and_bits (s t : Nat) (hs : s < 4294967296) (ht : t < 4294967296) : bits BinOp.and IntKind.u32 (s:Int) (t : Int) = (sAnd s t : Int) := u32_and_nat s t hs ht
theorem andNot_bits (s t : Nat) (hs : s < 4294967296) (ht : t < 4294967296) : bits BinOp.andNot IntKind.u32 (s:Int) (t : Int) = (sAndNot s t : Int) := u32_andNot_nat s t hs ht

set_option maxHeartbeats 400000
theorem has_any (s v : Nat) (w : World) (hs : s < 4294967296) (hv : v < 32) :
    Calls Try.prog 56 #[.int .u32 s, .int .i64 v] w fun e w' => e = .returned (.bool (sHas s v)) ∧ w = w' := by
  have H := Lib.hid (has_bits s v hs)
  go_enter Try.func56, Try.ntmps56
  go_wp2
  go_ret
  exact ⟨ret_bool H.out, rfl⟩
theorem with_any (s v : Nat) (w : World) (hs : s < 4294967296) (hv : v < 32) :
    Calls Try.prog 57 #[.int .u32 s, .int .i64 v] w fun e w' => e = .returned (.int .u32 (sWith s v)) ∧ w = w' := by
  have H := Lib.hid (with_bits s v hs hv)
  go_enter Try.func57, Try.ntmps57
  go_wp2
  go_ret
  exact ⟨ret_int H.out, rfl⟩
theorem without_any (s v : Nat) (w : World) (hs : s < 4294967296) (hv : v < 32) :
    Calls Try.prog 67 #[.int .u32 s, .int .i64 v] w fun e w' => e = .returned (.int .u32 (sWithout s v)) ∧ w = w' := by
  have H := Lib.hid (without_bits s v hs hv)
  go_enter Try.func67, Try.ntmps67
  go_wp2
  go_ret
  exact ⟨ret_int H.out, rfl⟩
theorem first_any (n : Nat) (w : World) (hn : n ≤ 16) :
    Calls Try.prog 68 #[.int .i64 n] w fun e w' => e = .returned (.int .u32 (sAll n)) ∧ w = w' := by
  have h0 : ((2:Int)^n % 4294967296 - 1) % 4294967296 = (sAll n : Int) := by
    rw [pow_mod32 (by omega)]
    have := pow_lt32 (v := n) (by omega); unfold sAll; have := Nat.one_le_two_pow (n := n)
    generalize 2^n = x at *; omega
  have H := Lib.hid h0; clear h0
  go_enter Try.func68, Try.ntmps68
  go_wp2
  go_ret
  exact ⟨ret_int H.out, rfl⟩



set_option maxRecDepth 100000
def pc (n s : Nat) : Nat := ((List.range n).filter fun v => s.testBit v).length
def tabOK (T : ByteArray) : Bool := T.size == 256 && (List.range 256).all fun i => (T[i]!).toNat == pc 8 i
theorem tab_size {T : ByteArray} (h : tabOK T = true) : T.size = 256 := by
  unfold tabOK at h; simp at h; exact h.1
theorem tab_at {T : ByteArray} (h : tabOK T = true) (i : Nat) (hi : i < T.size) : (T[i]).toNat = pc 8 i := by
  have hs := tab_size h
  unfold tabOK at h
  simp only [Bool.and_eq_true, List.all_eq_true, List.mem_range, beq_iff_eq] at h
  have := h.2 i (by omega)
  rwa [getElem!_pos T i hi] at this
theorem quiet_table {P : Program} {o : Oper} {a : Act} {C : World → Prop} {K : Act → Prop} (t : TypeId) (T : ByteArray) (x : Operand) (kd : IntKind) (i : Nat)
    (ho : o.op = .index t (.const (.string T)) x) (hu : P.underlying t = some .string) (hT : tabOK T = true) (hx : a.eval x = .int kd i) (hi : i < 256)
    (hk : K (a.put o.dst (.int .u8 (pc 8 i)))) : o.quiet P a C K := by
  refine ⟨_, fun w _ => ?_, hk⟩
  unfold Oper.quietAt execOp
  have hs := tab_size hT
  have h1 : 0 ≤ (i:Int) ∧ (i:Int) < T.size := by omega
  have h2 := tab_at hT i (by omega)
  simp only [ho, hx]
  have h3 : ((i:Int) < 256) := by omega
  simp [go_sem, run_index_string (P := P) w t T kd i hu, hs, h2, h3]
theorem pc_le (n s : Nat) : pc n s ≤ n := by
  unfold pc; have := List.length_filter_le (fun v => s.testBit v) (List.range n); simpa using this
theorem pc_hi (s : Nat) : pc 16 s = pc 8 (s / 256 % 256) + pc 8 (s % 256) := by
  have h1 : ∀ v, v < 8 → (s % 256).testBit v = s.testBit v := fun v hv => by
    rw [show (256:Nat) = 2^8 from rfl, Nat.testBit_mod_two_pow]; simp [hv]
  have h2 : ∀ v, v < 8 → (s / 256 % 256).testBit v = s.testBit (8 + v) := fun v hv => by
    rw [show s / 256 % 256 = (s / 2^8) % 2^8 from rfl, Nat.testBit_mod_two_pow, Nat.testBit_div_two_pow]; simp [hv, Nat.add_comm]
  have e : List.range 16 = List.range 8 ++ (List.range 8).map (8 + ·) := by decide
  unfold pc
  rw [e, List.filter_append, List.length_append, List.filter_map, List.length_map, Nat.add_comm]
  congr 1
  · congr 1; apply List.filter_congr; intro v hv; simp only [List.mem_range] at hv; simp [Function.comp, h2 v hv]
  · congr 1; apply List.filter_congr; intro v hv; simp only [List.mem_range] at hv; simp [h1 v hv]
theorem mask255 (k : Nat) (hk : k < 4294967296) : bits BinOp.and IntKind.u32 (k:Int) 255 = ((k % 256 : Nat) : Int) := by
  rw [show (255:Int) = ((255:Nat):Int) from rfl, u32_and_nat _ _ hk (by omega)]
  congr 1
  exact Nat.and_two_pow_sub_one_eq_mod k 8
theorem ones_any (s : Nat) (w : World) (hs : s < 65536) :
    Calls Try.prog 69 #[.int .u32 s] w fun e w' => e = .returned (.int .i64 (pc 16 s)) ∧ ∃ n, w' = w.drewN n := by
  have H := Lib.hid (pc_hi s)
  have m2 := Lib.hid (mask255 (s / 65536) (by omega))
  have m3 := Lib.hid (mask255 (s / 256) (by omega))
  have m4 := Lib.hid (mask255 s (by omega))
  have b3 : s / 256 % 256 < 256 := by omega
  have b4 : s % 256 < 256 := by omega
  have e1 : s / 16777216 = 0 := by omega
  have e2 : s / 65536 % 256 = 0 := by omega
  have q1 : s / 16777216 < 256 := by omega
  have q2 : s / 65536 % 256 < 256 := by omega
  have E1 := Lib.hid e1
  have E2 := Lib.hid e2
  have p1 := pc_le 8 (s / 16777216)
  have p2 := pc_le 8 (s / 65536 % 256)
  have p3 := pc_le 8 (s / 256 % 256)
  have p4 := pc_le 8 (s % 256)
  clear e1 e2
  go_enter Try.func69, Try.ntmps69
  go_wp2
  refine wp_region_quiet_lit (by kernel_rfl) (by kernel_rfl) ?_
  iterate 2 go_big_quiet_step (fail)
  go_big_quiet_want
  refine quiet_table _ _ _ .u32 (s / 16777216) rfl (by kernel_rfl) (by kernel_rfl) rfl q1 ?_
  simp only [Act.put, List.setIfInBounds_toArray, List.set_cons_succ, List.set_cons_zero]
  go_big_quiet_on
  iterate 3 go_big_quiet_step (fail)
  go_big_quiet_want
  refine quiet_table _ _ _ .u32 (s / 65536 % 256) rfl (by kernel_rfl) (by kernel_rfl) (congrArg (Value.int .u32) m2.out) q2 ?_
  simp only [Act.put, List.setIfInBounds_toArray, List.set_cons_succ, List.set_cons_zero]
  go_big_quiet_on
  iterate 4 go_big_quiet_step (fail)
  go_big_quiet_want
  refine quiet_table _ _ _ .u32 (s / 256 % 256) rfl (by kernel_rfl) (by kernel_rfl) (congrArg (Value.int .u32) m3.out) b3 ?_
  simp only [Act.put, List.setIfInBounds_toArray, List.set_cons_succ, List.set_cons_zero]
  go_big_quiet_on
  iterate 3 go_big_quiet_step (fail)
  go_big_quiet_want
  refine quiet_table _ _ _ .u32 (s % 256) rfl (by kernel_rfl) (by kernel_rfl) (congrArg (Value.int .u32) m4.out) b4 ?_
  simp only [Act.put, List.setIfInBounds_toArray, List.set_cons_succ, List.set_cons_zero]
  go_big_quiet_on
  repeat go_big_quiet_step (fail)
  refine wpQuiet_nil ?_
  intro _ hw'
  obtain ⟨nq, hw''⟩ := hw'
  subst hw''
  go_wp2
  go_ret
  refine ⟨ret_int ?_, nq, rfl⟩
  rw [H.out, E1.out, E2.out]
  have : pc 8 0 = 0 := by decide
  simp only [this]
  omega

def geti (xs : List Int) (i : Nat) : Int := xs.getD i 0
def IntsAt (w : World) (A : Option Addr) (xs : List Int) : Prop :=
  0 < xs.length → ∃ b o, A = some ⟨b, o, none⟩ ∧ b < w.heap.size ∧ ∀ i, i < xs.length → w.cell? ⟨b, o + i, none⟩ = some (.int .i64 (geti xs i))
theorem geti_eq {xs : List Int} {i : Nat} (h : i < xs.length) : geti xs i = xs[i] := by unfold geti; simp [h]
theorem ext_geti {xs ys : List Int} (h : xs.length = ys.length) (h2 : ∀ i, i < xs.length → geti xs i = geti ys i) : xs = ys := by
  apply List.ext_getElem h; intro i h1 h3; have := h2 i h1; rwa [geti_eq h1, geti_eq h3] at this

theorem size_any (s : Nat) (w : World) (hs : s < 65536) :
    Calls Try.prog 60 #[.int .u32 s] w fun e w' => e = .returned (.int .i64 (pc 16 s)) ∧ ∃ n, w' = w.drewN n := by
  go_enter Try.func60, Try.ntmps60
  go_wp2_with (go_at_call 69; refine (ones_any _ _ hs).mono ?_; rintro e w' ⟨rfl, n, rfl⟩)
  go_ret
  exact ⟨rfl, n, rfl⟩

theorem ints_any (A B : Option Addr) (c d : Nat) (xs ys : List Int) (w : World) (hx : xs.length ≤ 1000000) (hy : ys.length ≤ 1000000) (ha : IntsAt w A xs) (hb : IntsAt w B ys) :
    Calls Try.prog 21 #[.slice A xs.length c, .slice B ys.length d] w fun e w' => e = .returned (.bool (decide (xs = ys))) ∧ ∃ n, w' = w.drewN n := by
  by_cases hl : xs.length = ys.length
  · have hl2 : ((xs.length : Int) != ys.length) = false := by simp [hl]
    go_enter Try.func21, Try.ntmps21
    go_wp2
    go_loopw [5] (fun i wr => ∃ k n : Nat, k ≤ xs.length ∧ i = .int .i64 k ∧ wr = w.drewN n ∧ ∀ j, j < k → geti xs j = geti ys j) (fun i _ => xs.length - (intOf i).toNat)
    case atStart => exact ⟨0, 0, by omega, rfl, rfl, by intro j hj; omega⟩
    case round =>
      obtain ⟨k, n, hk, rfl, rfl, hj⟩ := hrel
      by_cases hlt : k < xs.length
      · obtain ⟨b, o, rfl, hb1, hc⟩ := ha (by omega)
        obtain ⟨b', o', rfl, hb1', hc'⟩ := hb (by omega)
        have h1 := hc k hlt
        have h2 := hc' k (by omega)
        have h3 : k < ys.length := by omega
        clear hc hc'
        go_wp2
        go_quiet (fail)
        go_wp2
        · go_ret
          refine ⟨ret_bool ?_, n + nq, World.drewN_drewN _ _ _⟩
          have hne : (geti xs k != geti ys k) = true := by assumption
          symm; apply decide_eq_false; rintro rfl; simp at hne
        · go_roundw
          case rel =>
            refine ⟨k + 1, n + nq, by omega, by go_num, by first | rfl | exact World.drewN_drewN _ _ _, fun j hj2 => ?_⟩
            have hne : (geti xs k != geti ys k) = false := by assumption
            by_cases h : j = k
            · subst h; simpa using hne
            · exact hj j (by omega)
          case measure => simp [intOf]; omega
      · go_wp2
        go_ret
        refine ⟨ret_bool ?_, n, rfl⟩
        symm; apply decide_eq_true; exact ext_geti hl (fun i hi => hj i (by omega))
  · have hl2 : ((xs.length : Int) != ys.length) = true := by simp; omega
    go_enter Try.func21, Try.ntmps21
    go_wp2
    go_ret
    refine ⟨ret_bool ?_, 0, rfl⟩
    symm; apply decide_eq_false; rintro rfl; exact hl rfl
end Go.Proofs.Ytpaeagkgmbhndaa
/- Fractions, remainders, and functions that only read one list. -/
namespace Go.Proofs.Ytpaeagkgmbhndaa
open Go.RowKit
set_option maxHeartbeats 400000
def fN (a b : Nat) : Nat := a / Nat.gcd a b
def fD (a b : Nat) : Nat := b / Nat.gcd a b
/-- A fraction's value. -/
abbrev frac (p q : Nat) : Value := .agg #[.int .i64 p, .int .i64 q]
theorem div_rng (a c : Nat) {m : Nat} (h : a ≤ m) : 0 ≤ (a:Int) / (c:Int) ∧ (a:Int) / (c:Int) ≤ m := by
  have h1 : ((a / c : Nat) : Int) = (a:Int) / (c:Int) := rfl
  have h2 := Nat.div_le_self a c
  rw [← h1]; generalize a / c = q at *; omega
theorem below_drewN {w : World} {B : Nat} (n : Nat) : Below B w (w.drewN n) := ⟨rfl, rfl, rfl, Nat.le_refl _, fun _ _ => rfl⟩
theorem quiet_same {P : Program} {f : FuncId} {args : Array Value} {w : World} {n : Nat} {v : Value}
    (h : Calls P f args (w.drewN n) fun e w' => e = .returned v ∧ w.drewN n = w') : Calls P f args (w.drewN n) fun e w'' => e = .returned v ∧ ∃ m, w'' = w.drewN m :=
  h.mono fun _ _ ⟨he, hm⟩ => ⟨he, n, hm.symm⟩
theorem quiet_same2 {P : Program} {f : FuncId} {args : Array Value} {w : World} {a n : Nat} {v : Value}
    (h : Calls P f args (w.drewN (a + n)) fun e w' => e = .returned v ∧ w.drewN (a + n) = w') : Calls P f args (w.drewN (a + n)) fun e w'' => e = .returned v ∧ ∃ m, w'' = w.drewN (a + m) :=
  h.mono fun _ _ ⟨he, hm⟩ => ⟨he, n, hm.symm⟩
theorem quiet_of2 {P : Program} {f : FuncId} {args : Array Value} {w : World} {a n : Nat} {v : Value}
    (h : Calls P f args (w.drewN (a + n)) fun e w' => e = .returned v ∧ ∃ m, w' = (w.drewN (a + n)).drewN m) : Calls P f args (w.drewN (a + n)) fun e w'' => e = .returned v ∧ ∃ m, w'' = w.drewN (a + m) :=
  h.mono fun _ _ ⟨he, m, hm⟩ => ⟨he, n + m, by rw [hm, World.drewN_drewN, Nat.add_assoc]⟩
theorem below_row {B : Nat} {a w : World} (h : Below B a w) {g : Nat} (hg : B ≤ g) (cs : Array Value) : Below B a (w.setRow g cs) :=
  h.trans ⟨rfl, rfl, rfl, by simp [World.setRow], fun k hk => by
    unfold World.setRow
    simp only [Array.getElem?_modify]
    rw [if_neg (by omega)]⟩
theorem reduced_any (a b : Nat) (w : World) (ha : a ≤ 1000000000) (hb : b ≤ 1000000000) (hb0 : 0 < b) :
    Calls Try.prog 62 #[.int .i64 a, .int .i64 b] w fun e w' => e = .returned (frac (fN a b) (fD a b)) ∧ Below w.heap.size w w' := by
  go_enter Try.func62, Try.ntmps62
  go_wp2
  go_loopw [5, 6] (fun x y wr => ∃ c d n : Nat, x = .int .i64 c ∧ y = .int .i64 d ∧ c ≤ 1000000000 ∧ d ≤ 1000000000 ∧ Nat.gcd c d = Nat.gcd a b ∧ wr = (w.alloc (.cells #[.int .i64 0, .int .i64 0] 26)).drewN n) (fun _ y _ => (intOf y).toNat)
  case atStart => exact ⟨a, b, 0, rfl, rfl, ha, hb, rfl, rfl⟩
  case round =>
    obtain ⟨c, d, n, rfl, rfl, hc, hd, hg, rfl⟩ := hrel
    have G := Lib.hid hg; clear hg
    by_cases h0 : 0 < d
    · have hm : c % d < d := Nat.mod_lt _ h0
      have hz : ((d:Int) != 0) = true := by simp; omega
      go_wp2
      go_quiet (fail)
      go_wp2
      go_roundw
      case rel => exact ⟨d, c % d, n + nq, rfl, by simp, by omega, by omega, by rw [← G.out, Nat.gcd_comm c d, Nat.gcd_rec d c, Nat.gcd_comm], by simp [World.drewN_drewN]⟩
      case measure => simp [intOf]; omega
    · obtain rfl : d = 0 := by omega
      have hcg : c = Nat.gcd a b := by rw [← G.out]; simp
      have hcp : 0 < c := by rw [hcg]; exact Nat.gcd_pos_of_pos_right _ hb0
      have HG := Lib.hid hcg; clear hcg
      obtain ⟨q1, q2⟩ := div_rng a c ha
      obtain ⟨q3, q4⟩ := div_rng b c hb
      go_wp2
      refine wp_region_quiet_tail 7 (by kernel_rfl) (by kernel_rfl) ?_
      simp only [List.take_succ_cons, List.take_zero, List.drop_succ_cons, List.drop_zero]
      repeat go_big_quiet_step ((fail))
      refine wpQuiet_nil ?_
      rintro _ ⟨nq, rfl⟩
      go_wp2
      refine bodyPost_ret (v := .agg #[.int .i64 (a / c : Nat), .int .i64 (b / c : Nat)]) (by simp [results, Try.results62, go_sem]) rfl ⟨by rw [HG.out]; rfl, ?_⟩
      (repeat (first | exact Below.refl _ _ | assumption | (refine Below.setCell ?_ (by first | exact Nat.le_refl _ | omega | (simp; done) | (simp; omega)) _) | (refine Below.trans ?_ (below_drewN _)) | (refine Below.drew ?_) | (refine Below.alloc ?_ (by first | exact Nat.le_refl _ | omega | (simp; done) | (simp; omega)) _) | (refine below_row ?_ (by first | exact Nat.le_refl _ | omega | (simp; done) | (simp; omega)) _)))
theorem gcd_any (a b : Nat) (w : World) (ha : a ≤ 1000000000) (hb : b ≤ 1000000000) :
    Calls Try.prog 63 #[.int .i64 a, .int .i64 b] w fun e w' => e = .returned (.int .i64 (Nat.gcd a b)) ∧ w = w' := by
  go_enter Try.func63, Try.ntmps63
  go_wp2
  go_loop [0, 1, 5] (fun x y _ => ∃ c d : Nat, x = .int .i64 c ∧ y = .int .i64 d ∧ c ≤ 1000000000 ∧ d ≤ 1000000000 ∧ Nat.gcd c d = Nat.gcd a b) (fun _ y _ => (intOf y).toNat)
  case atStart => exact ⟨a, b, rfl, rfl, ha, hb, rfl⟩
  case round =>
    obtain ⟨c, d, rfl, rfl, hc, hd, hg⟩ := hrel
    have G := Lib.hid hg; clear hg
    by_cases h0 : 0 < d
    · have hm : c % d < d := Nat.mod_lt _ h0
      go_wp2
      go_round
      case rel => exact ⟨d, c % d, rfl, by simp, by omega, by omega, by rw [← G.out, Nat.gcd_comm c d, Nat.gcd_rec d c, Nat.gcd_comm]⟩
      case measure => simp [intOf]; omega
    · go_wp2
      go_ret
      exact ⟨ret_int (by rw [← G.out, show d = 0 by omega]; simp), rfl⟩
theorem Reduced_any (a b : Nat) (w : World) (ha : a ≤ 1000000000) (hb : b ≤ 1000000000) (hb0 : 0 < b) :
    Calls Try.prog 48 #[.int .i64 a, .int .i64 b] w fun e w' => e = .returned (frac (fN a b) (fD a b)) ∧ Below w.heap.size w w' := by
  have hcp : 0 < Nat.gcd a b := Nat.gcd_pos_of_pos_right _ hb0
  have hcl : Nat.gcd a b ≤ 1000000000 := Nat.le_trans (Nat.gcd_le_right _ hb0) hb
  obtain ⟨q1, q2⟩ := div_rng a (Nat.gcd a b) ha
  obtain ⟨q3, q4⟩ := div_rng b (Nat.gcd a b) hb
  go_enter Try.func48, Try.ntmps48
  go_wp2_with (go_at_call 63; refine (gcd_any a b _ ha hb).mono ?_; rintro e w' ⟨rfl, rfl⟩)
  refine wp_region_quiet_tail 7 (by kernel_rfl) (by kernel_rfl) ?_
  simp only [List.take_succ_cons, List.take_zero, List.drop_succ_cons, List.drop_zero]
  repeat go_big_quiet_step ((fail))
  refine wpQuiet_nil ?_
  rintro _ ⟨nq, rfl⟩
  go_wp2
  refine bodyPost_ret (v := .agg #[.int .i64 (a / Nat.gcd a b : Nat), .int .i64 (b / Nat.gcd a b : Nat)]) (by simp [results, Try.results48, go_sem]) rfl ⟨rfl, ?_⟩
  (repeat (first | exact Below.refl _ _ | assumption | (refine Below.setCell ?_ (by first | exact Nat.le_refl _ | omega | (simp; done) | (simp; omega)) _) | (refine Below.trans ?_ (below_drewN _)) | (refine Below.drew ?_) | (refine Below.alloc ?_ (by first | exact Nat.le_refl _ | omega | (simp; done) | (simp; omega)) _) | (refine below_row ?_ (by first | exact Nat.le_refl _ | omega | (simp; done) | (simp; omega)) _)))
def modI (x : Int) (n : Nat) : Nat := (x % 18446744073709551616).toNat % n
theorem mod_wrap (x : Int) (n : Nat) (hn : 0 < n) (hn2 : n ≤ 1000000) : wrap64 ((IntKind.u64.wrap x).tmod ↑n) = (modI x n : Int) := by
  have e : IntKind.u64.wrap x = x % 18446744073709551616 := by simp [IntKind.wrap, IntKind.bits, IntKind.signed]
  rw [e]
  unfold modI
  have h0 : 0 ≤ x % 18446744073709551616 := by omega
  generalize x % 18446744073709551616 = r at *
  obtain ⟨m, rfl⟩ := Int.eq_ofNat_of_zero_le h0
  have e2 : Int.tmod (m:Int) (n:Int) = ((m % n : Nat) : Int) := rfl
  have h3 : m % n < n := Nat.mod_lt _ hn
  rw [e2, Int.toNat_natCast, IntWalk.wrap64_in _ ⟨by omega, by omega⟩]
theorem mod_any (x : Int) (n : Nat) (w : World) (hn : 0 < n) (hn2 : n ≤ 1000000) :
    Calls Try.prog 36 #[.int .i64 x, .int .i64 n] w fun e w' => e = .returned (.int .i64 (modI x n)) ∧ w = w' := by
  have H := Lib.hid (mod_wrap x n hn hn2)
  go_enter Try.func36, Try.ntmps36
  go_wp2
  go_ret
  exact ⟨ret_int H.out, rfl⟩
def gcells (n : Nat) (gs : List Nat) : List Value := .int .i64 n :: gs.map (fun g : Nat => Value.int .u32 g)
theorem gcells_0 (n : Nat) (gs : List Nat) : (gcells n gs)[0]? = some (.int .i64 n) := rfl
theorem gcells_s (n : Nat) (gs : List Nat) (i : Nat) (h : i < gs.length) : (gcells n gs)[1 + i]? = some (.int .u32 (gs[i]?.getD 0)) := by
  unfold gcells; rw [Nat.add_comm]; simp [h]
theorem gcells_len (n : Nat) (gs : List Nat) : (gcells n gs).length = gs.length + 1 := by simp [gcells]
theorem all_any (n : Nat) (gs : List Nat) (w : World) (hn : n ≤ 16) (hg : gs.length = 16) :
    Calls Try.prog 58 #[.agg (gcells n gs).toArray] w fun e w' => e = .returned (.int .u32 (sAll n)) ∧ Below w.heap.size w w' := by
  have h0 := gcells_0 n gs
  have hl : (gcells n gs).length = 17 := by rw [gcells_len, hg]
  go_enter Try.func58, Try.ntmps58
  go_wp2_with (go_at_call 68; refine (first_any _ _ hn).mono ?_; rintro e w' ⟨rfl, rfl⟩)
  go_ret
  refine ⟨rfl, ?_⟩
  (repeat (first | exact Below.refl _ _ | assumption | (refine Below.setCell ?_ (by first | exact Nat.le_refl _ | omega | (simp; done) | (simp; omega)) _) | (refine Below.trans ?_ (below_drewN _)) | (refine Below.drew ?_) | (refine Below.alloc ?_ (by first | exact Nat.le_refl _ | omega | (simp; done) | (simp; omega)) _) | (refine below_row ?_ (by first | exact Nat.le_refl _ | omega | (simp; done) | (simp; omega)) _)))
theorem has_list (A : Option Addr) (c : Nat) (xs : List Int) (v : Int) (w : World) (hx : xs.length ≤ 1000000) (ha : IntsAt w A xs) :
    Calls Try.prog 52 #[.slice A xs.length c, .int .i64 v] w fun e w' => e = .returned (.bool (decide (v ∈ xs))) ∧ w = w' := by
  go_enter Try.func52, Try.ntmps52
  go_wp2
  go_loop [5] (fun i => ∃ k : Nat, k ≤ xs.length ∧ i = .int .i64 k ∧ ∀ j, j < k → geti xs j ≠ v) (fun i => xs.length - (intOf i).toNat)
  case atStart => exact ⟨0, by omega, rfl, by intro j hj; omega⟩
  case round =>
    obtain ⟨k, hk, rfl, hj⟩ := hrel
    by_cases hlt : k < xs.length
    · obtain ⟨b, o, rfl, hb1, hc⟩ := ha (by omega)
      have h1 := hc k hlt
      clear hc
      have HJ := Lib.hid hj; clear hj
      cases g1 : (geti xs k == v)
      · go_wp2
        go_round
        case rel =>
          refine ⟨k + 1, by omega, by go_num, fun j hj2 => ?_⟩
          by_cases h : j = k
          · subst h; simpa using g1
          · exact HJ.out j (by omega)
        case measure => simp [intOf]; omega
      · go_wp2
        go_ret
        refine ⟨ret_bool ?_, rfl⟩
        symm; apply decide_eq_true
        have : geti xs k = v := by simpa using g1
        rw [← this, geti_eq hlt]; exact List.getElem_mem hlt
    · have HJ := Lib.hid hj; clear hj
      go_wp2
      go_ret
      refine ⟨ret_bool ?_, rfl⟩
      symm; apply decide_eq_false; intro hm
      obtain ⟨i, hi, he⟩ := List.getElem_of_mem hm
      exact HJ.out i (by omega) (by rw [geti_eq hi]; exact he)
def maxTo (xs : List Int) : Nat → Int
  | 0 => geti xs 0
  | k + 1 => if maxTo xs k < geti xs k then geti xs k else maxTo xs k
theorem maxTo_one (xs : List Int) : maxTo xs 1 = geti xs 0 := by simp [maxTo]
theorem max_any (A : Option Addr) (c : Nat) (xs : List Int) (w : World) (hx0 : 0 < xs.length) (hx : xs.length ≤ 1000000) (ha : IntsAt w A xs) :
    Calls Try.prog 53 #[.slice A xs.length c] w fun e w' => e = .returned (.int .i64 (maxTo xs xs.length)) ∧ w = w' := by
  obtain ⟨b, o, rfl, hb1, hc⟩ := ha hx0
  have h0 : w.cell? ⟨b, o, none⟩ = some (.int .i64 (geti xs 0)) := by simpa using hc 0 hx0
  have h1 : ¬ ((xs.length : Int) < 1) := by omega
  go_enter Try.func53, Try.ntmps53
  go_wp2
  go_loop [3, 4] (fun m i => ∃ k : Nat, 1 ≤ k ∧ k ≤ xs.length ∧ i = .int .i64 k ∧ m = .int .i64 (maxTo xs k)) (fun _ i => xs.length - (intOf i).toNat)
  case atStart => exact ⟨1, by omega, by omega, rfl, by rw [maxTo_one]⟩
  case round =>
    obtain ⟨k, hk0, hk, rfl, rfl⟩ := hrel
    by_cases hlt : k < xs.length
    · have h2 := hc k hlt
      clear hc h0
      go_wp2
      go_round
      case rel => exact ⟨k + 1, by omega, by omega, by go_num, rfl⟩
      case measure => simp [intOf]; omega
    · clear hc h0
      obtain rfl : k = xs.length := by omega
      go_wp2
      go_ret
      exact ⟨rfl, rfl⟩
end Go.Proofs.Ytpaeagkgmbhndaa
/- Functions that read a list, or a list of pairs. -/
namespace Go.Proofs.Ytpaeagkgmbhndaa
open Go.RowKit
set_option maxHeartbeats 400000
def pA (ps : List (Int × Int)) (i : Nat) : Int := (ps.getD i (0, 0)).1
def pB (ps : List (Int × Int)) (i : Nat) : Int := (ps.getD i (0, 0)).2
def PairsAt (w : World) (A : Option Addr) (ps : List (Int × Int)) : Prop :=
  0 < ps.length → ∃ b o, A = some ⟨b, o, none⟩ ∧ b < w.heap.size ∧ ∀ i, i < ps.length → w.cell? ⟨b, o + i * 2, none⟩ = some (.int .i64 (pA ps i)) ∧ w.cell? ⟨b, o + i * 2 + 1, none⟩ = some (.int .i64 (pB ps i))
theorem heads_any (A B : Option Addr) (c d : Nat) (ps : List (Int × Int)) (ys : List Int) (w : World) (hx : ps.length ≤ 1000000) (ha : PairsAt w A ps) (hb : IntsAt w B ys) :
    Calls Try.prog 28 #[.slice A ps.length c, .slice B ys.length d] w fun e w' => e = .returned (.bool (decide (ys.length = ps.length ∧ ∀ i, i < ps.length → geti ys i = pA ps i ∨ geti ys i = pB ps i))) ∧ ∃ n, w' = w.drewN n := by
  by_cases hl : ys.length = ps.length
  · have hl2 : ((ys.length : Int) != ps.length) = false := by simp [hl]
    go_enter Try.func28, Try.ntmps28
    go_wp2
    go_loopw [5] (fun i wr => ∃ k n : Nat, k ≤ ps.length ∧ i = .int .i64 k ∧ wr = w.drewN n ∧ ∀ j, j < k → geti ys j = pA ps j ∨ geti ys j = pB ps j) (fun i _ => ps.length - (intOf i).toNat)
    case atStart => exact ⟨0, 0, by omega, rfl, rfl, by intro j hj; omega⟩
    case round =>
      obtain ⟨k, n, hk, rfl, rfl, hj⟩ := hrel
      have HJ := Lib.hid hj; clear hj
      by_cases hlt : k < ps.length
      · obtain ⟨b, o, rfl, hb1, hc⟩ := ha (by omega)
        obtain ⟨b', o', rfl, hb1', hc'⟩ := hb (by omega)
        obtain ⟨h1, h2⟩ := hc k hlt
        have h3 := hc' k (by omega)
        have h4 : k < ys.length := by omega
        clear hc hc'
        cases g1 : (geti ys k != pA ps k) <;> cases g2 : (geti ys k != pB ps k)
        all_goals
          go_wp2
          go_quiet (fail)
          go_wp2
        all_goals first
          | (go_roundw
             case rel =>
               refine ⟨k + 1, n + nq, by omega, by go_num, (by first | rfl | exact World.drewN_drewN _ _ _), fun j hj2 => ?_⟩
               by_cases h : j = k
               · subst h; simp at g1 g2; first | exact .inl g1 | exact .inr g2
               · exact HJ.out j (by omega)
             case measure => simp [intOf]; omega)
          | (go_ret
             refine ⟨ret_bool ?_, n + nq, (by first | rfl | exact World.drewN_drewN _ _ _)⟩
             symm; apply decide_eq_false; rintro ⟨_, hh⟩
             have := hh k hlt
             simp at g1 g2; rcases this with h | h
             · exact g1 h
             · exact g2 h)
      · go_wp2
        go_ret
        refine ⟨ret_bool ?_, n, rfl⟩
        symm; apply decide_eq_true; exact ⟨hl, fun i hi => HJ.out i (by omega)⟩
  · have hl2 : ((ys.length : Int) != ps.length) = true := by simp; omega
    go_enter Try.func28, Try.ntmps28
    go_wp2
    go_ret
    refine ⟨ret_bool ?_, 0, rfl⟩
    symm; apply decide_eq_false; rintro ⟨h, _⟩; exact hl h
/-- A list of different numbers from 0 to n - 1 in ascending order. -/
def asc (n : Nat) (xs : List Int) (k : Nat) : Prop := ∀ i, i < k → 0 ≤ geti xs i ∧ geti xs i < n ∧ (0 < i → geti xs (i - 1) < geti xs i)
instance (n : Nat) (xs : List Int) (k : Nat) : Decidable (asc n xs k) := by unfold asc; infer_instance
set_option maxHeartbeats 2000000 in
theorem Set_any (n : Nat) (A : Option Addr) (c : Nat) (xs : List Int) (w : World) (hx : xs.length ≤ 1000000) (ha : IntsAt w A xs) :
    Calls Try.prog 26 #[.int .i64 n, .slice A xs.length c] w fun e w' => e = .returned (.bool (decide (asc n xs xs.length ∧ 0 < xs.length))) ∧ ∃ n, w' = w.drewN n := by
  go_enter Try.func26, Try.ntmps26
  go_wp2
  go_loopw [5] (fun i wr => ∃ k m : Nat, k ≤ xs.length ∧ i = .int .i64 k ∧ wr = w.drewN m ∧ asc n xs k) (fun i _ => xs.length - (intOf i).toNat)
  case atStart => exact ⟨0, 0, by omega, rfl, rfl, by intro j hj; omega⟩
  case round =>
    obtain ⟨k, m, hk, rfl, rfl, hj⟩ := hrel
    have HJ := Lib.hid hj; clear hj
    by_cases hlt : k < xs.length
    · obtain ⟨b, o, rfl, hb1, hc⟩ := ha (by omega)
      have h1 := hc k hlt
      have h2 : 0 < k → w.cell? ⟨b, o + (k - 1), none⟩ = some (.int .i64 (geti xs (k - 1))) := fun h => hc (k - 1) (by omega)
      clear hc
      have h3 : 0 < k → w.cell? ⟨b, o + (k - 1), none⟩ = some (.int .i64 (geti xs (k - 1))) := h2
      cases g1 : decide (geti xs k < 0) <;> cases g2 : decide ((n:Int) ≤ geti xs k) <;> cases g3 : decide (0 < k) <;> cases g4 : decide (geti xs k ≤ geti xs (k - 1))
      all_goals
        first
          | (have h5 := h3 (by have := of_decide_eq_true g3; omega)
             have e3 : ((k:Int) - 1).toNat = k - 1 := by omega
             have e4 : 0 ≤ (k:Int) - 1 := by have := of_decide_eq_true g3; omega
             clear h2 h3)
          | clear h2 h3
        go_wp2
        refine wp_region_quiet_lit (by kernel_rfl) (by kernel_rfl) ?_
        repeat go_big_quiet_step (fail)
        refine wpQuiet_nil ?_
        rintro _ ⟨nq, rfl⟩
        go_wp2
        simp only [decide_eq_false_iff_not, decide_eq_true_eq] at g1 g2 g3 g4
      all_goals first
        | (go_roundw
           case rel =>
             refine ⟨k + 1, m + nq, by omega, by go_num, (by first | rfl | exact World.drewN_drewN _ _ _), fun j hj2 => ?_⟩
             by_cases h : j = k
             · subst h; exact ⟨by omega, by omega, fun _ => by omega⟩
             · exact HJ.out j (by omega)
           case measure => simp [intOf]; omega)
        | (go_ret
           refine ⟨ret_bool ?_, m + nq, (by first | rfl | exact World.drewN_drewN _ _ _)⟩
           symm; apply decide_eq_false; rintro ⟨hh, _⟩
           have := hh k hlt
           omega)
    · obtain rfl : k = xs.length := by omega
      go_wp2
      go_ret
      refine ⟨ret_bool ?_, m, rfl⟩
      rw [Bool.eq_iff_iff]; simp; exact fun _ => HJ.out
end Go.Proofs.Ytpaeagkgmbhndaa
/- Visiting the members of a set: the iterator's contract. -/
namespace Go.Proofs.Ytpaeagkgmbhndaa
open Go.RowKit Go.Shelf
attribute [local go_sem] Oper.semAt_some
set_option maxHeartbeats 400000
theorem members_any (s : Nat) (w : World) :
    Calls Try.prog 61 #[.int .u32 s] w fun e w' => e = .returned (.func (.func 70) #[] #[.pointer (some ⟨w.heap.size, 0, none⟩)]) ∧ w.alloc (.cells #[.int .u32 s] 72) = w' := by
  go_enter Try.func61, Try.ntmps61
  go_wp2
  go_ret
  exact ⟨rfl, rfl⟩
/-- A vertex of the set s. -/
abbrev Mem (s : Nat) := { v : Nat // v < 16 ∧ sHas s v = true }
def ms (s : Nat) : List Nat := (List.range 16).filter (sHas s)
/-- Block B lies as it lay. -/
def KeepB (B : Nat) (W W' : World) : Prop := W'.heap[B]? = W.heap[B]?
def upTo (s k : Nat) : List Nat := (List.range k).filter (sHas s)
theorem upTo_yes {s k : Nat} (h : sHas s k = true) : upTo s (k + 1) = upTo s k ++ [k] := by simp [upTo, List.range_succ, List.filter_append, h]
theorem upTo_no {s k : Nat} (h : sHas s k = false) : upTo s (k + 1) = upTo s k := by simp [upTo, List.range_succ, List.filter_append, h]
theorem members_stops (F : Fence) (hO : Open F) (hro : F.round = none) (n : Nat) (B s : Nat) (hs : s < 65536) (w : World) (hB : w.heap[B]? = some (.cells #[.int .u32 s] 72 (0, 0))) :
    SeqStopsK (α := Mem s) F n Try.prog 70 #[.pointer (some ⟨B, 0, none⟩)] (fun x => #[.int .i64 x.1]) (KeepB B) (fun xs => xs.map (·.1) = ms s) (fun _ => True) 16 w := by
  intro l J Jx W hW hJ hJx hY h0
  have hF := hO.fn
  have hd := hO.depth
  have F70 := hF 70
  refine callsIn_of_wp Try.func70 rfl F70 ?_ hro
  simp only [Try.ntmps70, List.size_toArray, List.length_cons, List.length_nil, Nat.reduceAdd, Nat.reduceSub, Array.replicate_succ, Array.replicate_zero, List.push_toArray, List.append_toArray, List.nil_append, List.cons_append]
  gi_wp2
  gi_loopw [4, 3] (fun i _ wr => ∃ (k : Nat) (pre : List (Mem s)), k ≤ 16 ∧ i = .int .i64 k ∧ pre.map (·.1) = upTo s k ∧ J pre wr ∧ KeepB B w wr) (fun i _ _ => 16 - (intOf i).toNat)
  case atStart => exact ⟨0, [], by omega, rfl, rfl, h0, hW.block B (Array.getElem?_eq_some_iff.1 hB).1⟩
  case round =>
    obtain ⟨k, pre, hk, rfl, hp, hj, hkb⟩ := hrel
    have hc : wr.cell? ⟨B, 0, none⟩ = some (.int .u32 s) := by
      have : wr.heap[B]? = some (.cells #[.int .u32 s] 72 (0, 0)) := hkb.trans hB
      exact cell_of_row wr B 0 _ _ _ this
    have hp' := Lib.hid hp
    clear hp hB
    by_cases hlt : k < 16
    · cases hb : sHas s k
      · have hb' := Lib.hid hb
        clear hb hY
        have HC := Lib.hid ((has_any s k wr (by omega) (by omega)).mono (R' := fun e w' => e = .returned (.bool false) ∧ wr = w') (fun e w' ⟨h1, h2⟩ => ⟨by rw [h1, hb'.out], h2⟩))
        gi_wp2_with (gi_at_call 56; refine (hO.lift _ HC.out).mono ?_; rintro e w' ⟨rfl, rfl⟩)
        go_roundw
        case rel => exact ⟨k + 1, pre, by omega, by go_num, by rw [upTo_no hb'.out]; exact hp'.out, hj, hkb⟩
        case measure => simp [intOf]; omega
      · have hb' := Lib.hid hb
        have HC := Lib.hid ((has_any s k wr (by omega) (by omega)).mono (R' := fun e w' => e = .returned (.bool true) ∧ wr = w') (fun e w' ⟨h1, h2⟩ => ⟨by rw [h1, hb'.out], h2⟩))
        have hlen : pre.length < 16 := by
          have : (pre.map (·.1)).length = (upTo s k).length := by rw [hp'.out]
          rw [List.length_map] at this
          have h2 := List.length_filter_le (sHas s) (List.range k)
          unfold upTo at this
          simp only [List.length_range] at h2
          omega
        obtain ⟨x, hx⟩ : ∃ x : Mem s, x.1 = k := ⟨⟨k, hlt, hb⟩, rfl⟩
        obtain ⟨fn, tmps, assign, body, hy, hR⟩ := hY pre x wr hj hlen
        rw [hx] at hy
        have HX := Lib.hid hx
        clear hb hY hx
        gi_wp2_with (gi_at_call 56; refine (hO.lift _ HC.out).mono ?_; rintro e w' ⟨rfl, rfl⟩)
        refine hR.mono ?_
        rintro e W3 (⟨rfl, hJ3, hk3⟩ | ⟨rfl, hJx3⟩)
        · gi_wp2
          go_roundw
          case rel => exact ⟨k + 1, pre ++ [x], by omega, by go_num, by rw [upTo_yes hb'.out, List.map_append, hp'.out]; simp [HX.out], hJ3, hk3.trans hkb⟩
          case measure => simp [intOf]; omega
        · gi_wp2
          refine bodyPost_ret (results_none rfl _ _ _) rfl ?_
          exact ⟨⟨_, rfl⟩, .inr ⟨pre ++ [x], trivial, hJx3⟩⟩
    · obtain rfl : k = 16 := by omega
      gi_wp2
      go_end0
      exact ⟨⟨_, rfl⟩, .inl ⟨pre, hp'.out, hj⟩⟩
end Go.Proofs.Ytpaeagkgmbhndaa
