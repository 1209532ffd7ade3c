/- Laws and words for this seat's texts. -/
import Derived.Test.YtokjdadgdfmffaaRows
import Derived.Test.YtokjdadgdfmffaaChecked
import Derived.ArgAppend
import Derived.BigQuiet
import Derived.Carry
import Derived.Deep.DeepCutAuto
import Derived.Deep.DrawnRows
import Derived.Deep.LoopGhost
import Derived.Deep.MidRow
import Derived.Deep.Quiet
import Derived.Deep.QuietTactic
import Derived.Deep.RegionHeld3
import Derived.Deep.RegionLaw
import Derived.Deep.SlicePairs
import Derived.KernelRfl
import Derived.Laws.AppendOwnNone
import Derived.Lib.Hide
import Derived.LoopIn
import Derived.LoopNIn
import Derived.Maps.AppendAt
import Derived.OpenShut
import Derived.OrdersIn
import Derived.OwnWalkIn
import Derived.ProofKit
import Derived.RangeFuncBound
import Derived.RangeFuncCalls
import Derived.RangeFuncLeaves
import Derived.RangeFuncNested
import Derived.Scope
import Derived.Shelf.Abstract
import Derived.Shelf.RegionOpen
import Derived.Sort.LoopGhostIn
import Derived.StillTail
import Derived.TacticsIn
import Derived.TacticsInMore
import Derived.WalkKit
import Derived.WalkLawsBesides
import Derived.WalkMore
import Derived.WalkSpells
namespace Go.Proofs.Ytokjdadgdfmffaa
open Go.RowKit Go.ChangeShapes Go.WideShapes Go.ChangeAt
set_option maxHeartbeats 1000000
set_option maxRecDepth 100000
section
variable {P : Program} {ops : Array Oper} {md : Region.Mode} {C : World → Prop}
def headQ (P : Program) (md : Region.Mode) (ops : Array Oper) (C : World → Prop) (n : Nat) (L : Array Bool → Act → Prop) : Nat → Array Bool → Act → Prop
  | 0, d, a => L d a
  | f + 1, d, a => Region.ready md ops d ≠ [] ∧ ∀ i ∈ Region.ready md ops d, i < n ∧ qOp P ops C i (headQ P md ops C n L f (d.setIfInBounds i true)) a
theorem wpAny_of_headQ {n g : Nat} {L : Array Bool → Act → Prop} {R : Exit → Act → World → Prop} (hL : ∀ d a w, C w → L d a → wpAny P md ops R g d a w) (f : Nat) :
    ∀ (d : Array Bool) (a : Act) (w : World), C w → headQ P md ops C n L f d a → wpAny P md ops R (f + g) d a w := by
  induction f with
  | zero => intro d a w hw h; rw [Nat.zero_add]; exact hL _ _ _ hw h
  | succ f ih =>
    intro d a w hw h
    rw [Nat.succ_add]
    exact ⟨fun e => (h.1 e).elim, fun i hi => wpOp_of_qOp hw (fun a' w' hw' hh => ih _ a' w' hw' hh) (h.2 i hi).2⟩
theorem headQ_first {n i : Nat} {oi : Oper} {v : Value} {L : Array Bool → Act → Prop} (hi : ops[i]? = some oi) (hsel : ∀ (j : Nat) (o : Oper) cs b, ops[j]? = some o → o.op ≠ .select cs b)
    (hs : Region.sinkB md ops n = true) (hc : Region.chainB md ops n = true) (hn : n < ops.size) (hin : i < n) (hdone : ∀ d a, L d a → ∀ j ∈ Region.ready md ops d, n ≤ j) (f : Nat) :
    ∀ (d : Array Bool) (a : Act), HeadInv md ops n d →
      (∀ j oj, ops[j]? = some oj → j ≠ i → d.getD j true = false → (∀ e ∈ oj.after, Region.binds md e = true → e.on ≠ i) → oi.apart ops oj = true) →
      i ∈ Region.ready md ops d → YieldsIn P ops C oi v a → headQ P md ops C n L f (d.setIfInBounds i true) (a.put oi.dst v) → headQ P md ops C n L (f + 1) d a := by
  induction f with
  | zero =>
    intro d a inv _ hr hy H
    have hun := (mem_ready.1 hr).1
    refine ⟨List.ne_nil_of_mem hr, fun j hj => ?_⟩
    have hjn : j < n := (Nat.lt_or_ge j n).elim id fun h => absurd hj (tail_waits hs hc hn inv _ i rfl hin hun j h)
    refine ⟨hjn, ?_⟩
    rcases Nat.decEq j i with hji | hji
    · exact absurd (hdone _ _ H j (ready_mono hj hji)) (by omega)
    · subst hji; exact hy.qOp hi H
  | succ f ih =>
    intro d a inv hfree hr hy H
    have hun := (mem_ready.1 hr).1
    refine ⟨List.ne_nil_of_mem hr, fun j hj => ?_⟩
    have hjn : j < n := (Nat.lt_or_ge j n).elim id fun h => absurd hj (tail_waits hs hc hn inv _ i rfl hin hun j h)
    refine ⟨hjn, ?_⟩
    rcases Nat.decEq j i with hji | hji
    · have h1 := (H.2 j (ready_mono hj hji)).2
      obtain ⟨hjun, oj, hoj, hall⟩ := mem_ready.1 hj
      have hnot : ∀ e ∈ oj.after, Region.binds md e = true → e.on ≠ i := fun e he hb heq => by
        have h2 := hall e he hb
        rw [heq, getD_both hun] at h2; cases h2
      have h2 := qOp_put hoj (hfree j oj hoj hji hjun hnot) (fun cs b => hsel i oi cs b hi) (fun cs b => hsel j oj cs b hoj) hy h1
      refine qOp_mono (fun a' h3 => ih (d.setIfInBounds j true) a' (inv.set hj hjn) ?_ (ready_mono hr (Ne.symm hji)) h3.1 (by rw [Array.setIfInBounds_comm _ _ hji]; exact h3.2)) h2
      intro k ok hk hki hunk hno
      refine hfree k ok hk hki ?_ hno
      rcases Nat.decEq j k with hjk | hjk
      · rw [getD_set_ne true hjk] at hunk; exact hunk
      · subst hjk; exact hjun
    · subst hji; exact hy.qOp hi H
theorem headQ_lex {n g : Nat} {Lq : Act → Prop} (hsel : Region.noSelect ops = true) (hs : Region.sinkB md ops n = true) (hc : Region.chainB md ops n = true) (hn : n < ops.size) (l : List Oper) :
    ∀ (k : Nat) (d : Array Bool) (a : Act), (∀ j, j < l.length → l[j]? = ops[k + j]?) → k + l.length = n → HeadInv md ops n d → Region.lexHead md ops g l.length k d = true →
      wpQuiet P ops C Lq l a → headQ P md ops C n (fun d' a' => Region.seqB md ops g n d' = true ∧ Lq a') l.length d a := by
  induction l with
  | nil =>
    intro k d a _ hk _ hB h
    obtain rfl : k = n := by simpa using hk
    exact ⟨by simpa [Region.lexHead] using hB, h⟩
  | cons o l ih =>
    intro k d a hl hk inv hB h
    have h0 : ops[k]? = some o := by simpa using (hl 0 (by simp)).symm
    simp only [List.length_cons] at hk
    simp only [List.length_cons, Region.lexHead, Bool.and_eq_true] at hB
    have hr' : k ∈ Region.ready md ops d := by simpa using hB.1.1
    have hq : qOp P ops C k (wpQuiet P ops C Lq l) a := by unfold qOp; simp only [h0]; exact h
    obtain ⟨v, hy, hK⟩ := yieldsIn_of_qOp h0 hq
    refine headQ_first h0 (Region.noSelect_spec hsel) hs hc hn (by omega) (fun d' a' hL => seqB_ready hL.1) l.length d a inv (Region.free_spec h0 hB.1.2) hr' hy ?_
    refine ih (k + 1) _ _ (fun j hj => ?_) (by omega) (inv.set hr' (by omega)) hB.2 hK
    have := hl (j + 1) (by simp; omega)
    simpa [Nat.add_assoc, Nat.add_comm 1 j] using this
theorem wp_region_quiet_tail {id : Nat} {R : Exit → Act → World → Prop} {a : Act} {w : World} {l : List Oper} (n : Nat) (hm : P.follows .mixedOrders = true) (hB : Region.lexTailB .any l.toArray n = true)
    (h : wpQuiet P l.toArray (fun w' => ∃ k, w' = w.drewN k) (fun a' => ∀ w', (∃ k, w' = w.drewN k) → wpList P l.toArray R (l.drop n) a' w') (l.take n) a) : (Code.region id l.toArray true).wp P R a w := by
  simp only [Region.lexTailB, Bool.and_eq_true, decide_eq_true_eq] at hB
  obtain ⟨⟨⟨⟨hsel, hn⟩, hs⟩, hc⟩, hlex⟩ := hB
  have hn' : n < l.length := by simpa using hn
  have htl : (l.take n).length = n := by simp; omega
  have hdl : (l.drop n).length = l.toArray.size - n := by simp
  have inv0 : HeadInv .any l.toArray n (Array.replicate l.toArray.size false) :=
    ⟨by simp, fun j oj _ hl => (by rw [getD_replicate_false] at hl; cases hl), fun t _ ht => getD_in (by simpa using ht) (getD_replicate_false _ _)⟩
  have H := headQ_lex (md := .any) (g := l.toArray.size - n) hsel hs hc hn (l.take n) 0 _ a (fun j hj => by rw [htl] at hj; simp [hj]) (by simpa using htl) inv0 (by rw [htl]; exact hlex) h
  refine wp_region_any hm ?_
  have h2 := wpAny_of_headQ (C := fun w' => ∃ k, w' = w.drewN k) (R := R) (g := l.toArray.size - n) (fun d a' w' hw' hL => by
    have h3 := wpAny_of_seq (md := .any) (Q' := R) (l.drop n) n d a' w' (fun j => by simp [List.getElem?_drop]) (by rw [hdl]; exact hL.1) (hL.2 w' hw')
    rwa [hdl] at h3) _ _ _ { w with drawn := w.drawn + 1 } ⟨1, rfl⟩ H
  rw [htl, show n + (l.toArray.size - n) = l.toArray.size by omega] at h2
  exact h2
end
/-- A fence that lets everything in. -/
structure Open (F : Fence) : Prop where
  fn : ∀ f, F.fn f
  depth : F.depth = none
  alive : F.alive = false
theorem Open.fenced {F : Fence} (h : Open F) (P : Program) (m : Machine) : m.fenced P F := by
  intro g _
  refine ⟨fun e => ?_, .inl (h.fn _), fun _ _ => h.fn _, fun d e => ?_⟩
  · rw [h.alive] at e; cases e
  · rw [h.depth] at e; cases e
theorem Open.wide : Open Fence.wide := ⟨fun _ => trivial, rfl, rfl⟩
theorem Open.inRound {F : Fence} (h : Open F) (l : Nat) : Open (F.inRound l) := ⟨h.fn, h.depth, h.alive⟩
theorem Open.lift {F : Fence} (h : Open F) (n : Nat) {P : Program} {f : FuncId} {args : Array Value} {w : World} {R : Ending → World → Prop} (c : Calls P f args w R) : CallsIn F n P f args w R := by
  refine ⟨h.fn f, fun cs _ => ?_⟩
  obtain ⟨e, w', fr, r, s, x⟩ := c cs
  refine ⟨e, w', fr, r, ?_, x⟩
  cases e with
  | returned v => exact (StepsIn.of_steps s).mono fun m _ => h.fenced P m
  | panicked chain => exact (StepsIn.of_steps s).mono fun m _ => h.fenced P m
  | outgrown => exact s
/-! The same inside a fence that lets everything in, in a round too. -/
def noDefer (ops : Array Oper) : Bool := ops.all fun o => match o.op with | .defer _ => false | _ => true
theorem noDefer_spec {ops : Array Oper} (h : noDefer ops = true) {i : Nat} {o : Oper} (hi : ops[i]? = some o) : ∀ c, o.op ≠ .defer c := by
  intro c e
  unfold noDefer at h
  rw [Array.all_eq_true] at h
  obtain ⟨hlt, rfl⟩ := Array.getElem?_eq_some_iff.1 hi
  have := h i hlt
  rw [e] at this
  cases this
section
variable {P : Program} {ops : Array Oper} {md : Region.Mode} {C : World → Prop} {F : Fence} {m : Nat}
theorem wpIn_of_quiet (hO : Open F) {o : Oper} (hd : ∀ c, o.op ≠ .defer c) {a : Act} {K : Act → Prop} {K' : Act → World → Prop} {R : Exit → Act → World → Prop} {w : World} (hw : C w) (h : ∀ a w', C w' → K a → K' a w')
    (hh : o.quiet P a C K) : o.wpIn F m P a w K' R := by
  obtain ⟨v, h1, h2⟩ := hh
  have h3 := h1 w hw
  refine ⟨fun _ _ => hO.fn _, ?_⟩
  rw [Oper.semAt_eq _ _ _ hd]
  unfold Oper.quietAt at h3
  generalize (execOp a.eval o).run P w = r at *
  cases r with
  | halt x w' => exact h3.elim
  | ok nx w' =>
    cases nx <;> simp only [Oper.quietUpon] at h3 <;> simp only [Oper.uponIn]
    case value u => obtain ⟨rfl, rfl⟩ := h3; exact h _ _ hw h2
    case skip => obtain ⟨rfl, rfl⟩ := h3; exact h _ _ hw h2
    case enter f args =>
      obtain ⟨rfl, hc⟩ := h3
      refine ⟨fun e => (by rw [hO.depth] at e; cases e), hO.lift _ (hc.mono ?_)⟩
      rintro e w'' ⟨rfl, hw''⟩
      exact h _ _ hw'' h2
theorem wpOpIn_of_qOp (hO : Open F) (hD : noDefer ops = true) {i : Nat} {a : Act} {K : Act → Prop} {K' : Act → World → Prop} {R : Exit → Act → World → Prop} {w : World} (hC : C w) (h : ∀ a w', C w' → K a → K' a w')
    (hh : qOp P ops C i K a) : wpOpIn F m P ops R i K' a w := by
  unfold qOp at hh
  unfold wpOpIn
  cases ho : ops[i]? with
  | none => simp only [ho] at hh; exact h _ _ hC hh
  | some o =>
    simp only [ho] at hh
    by_cases hw : Region.wanted o (yielded ops a.tmps) = true
    · simp only [hw, if_true] at hh ⊢; exact wpIn_of_quiet hO (noDefer_spec hD ho) hC h hh
    · simp only [hw] at hh ⊢; exact ⟨fun _ _ => hO.fn _, h _ _ hC hh⟩
theorem wpAnyIn_of_headQ (hO : Open F) (hD : noDefer ops = true) {n g : Nat} {L : Array Bool → Act → Prop} {R : Exit → Act → World → Prop} (hL : ∀ d a w, C w → L d a → wpAnyIn F m P md ops R g d a w) (f : Nat) :
    ∀ (d : Array Bool) (a : Act) (w : World), C w → headQ P md ops C n L f d a → wpAnyIn F m P md ops R (f + g) d a w := by
  induction f with
  | zero => intro d a w hw h; rw [Nat.zero_add]; exact hL _ _ _ hw h
  | succ f ih =>
    intro d a w hw h
    rw [Nat.succ_add]
    exact ⟨fun e => (h.1 e).elim, fun i hi => wpOpIn_of_qOp hO hD hw (fun a' w' hw' hh => ih _ a' w' hw' hh) (h.2 i hi).2⟩
theorem wpAnyIn_of_seq {R : Exit → Act → World → Prop} (l : List Oper) : ∀ (k : Nat) (d : Array Bool) (a : Act) (w : World), (∀ j, l[j]? = ops[k + j]?) →
    Region.seqB md ops l.length k d = true → wpListIn F m P ops R l a w → wpAnyIn F m P md ops R l.length d a w := by
  induction l with
  | nil => intro k d a w _ hB h; exact ⟨by simpa [Region.seqB] using hB, h⟩
  | cons o l ih =>
    intro k d a w hl hB h
    have h0 : ops[k]? = some o := by simpa using (hl 0).symm
    simp only [List.length_cons, Region.seqB, Bool.and_eq_true, decide_eq_true_eq] at hB
    refine ⟨fun h1 => (by rw [hB.1] at h1; cases h1), fun i hi => ?_⟩
    rw [hB.1] at hi
    obtain rfl : i = k := by simpa using hi
    have hw : wpOpIn F m P ops R i (wpListIn F m P ops R l) a w := by unfold wpOpIn; simp only [h0]; exact h
    exact wpOpIn_mono (fun a' w' h' => ih (i + 1) _ a' w' (fun j => by have := hl (j + 1); simpa [Nat.add_assoc, Nat.add_comm 1 j] using this) hB.2 h') hw
theorem wpIn_region_quiet_tail (hO : Open F) {id : Nat} {R : Exit → Act → World → Prop} {a : Act} {w : World} {l : List Oper} (n : Nat) (hm : P.follows .mixedOrders = true) (hD : noDefer l.toArray = true)
    (hB : Region.lexTailB .any l.toArray n = true)
    (h : wpQuiet P l.toArray (fun w' => ∃ k, w' = w.drewN k) (fun a' => ∀ w', (∃ k, w' = w.drewN k) → wpListIn F m P l.toArray R (l.drop n) a' w') (l.take n) a) : (Code.region id l.toArray true).wpIn F m P R a w := by
  simp only [Region.lexTailB, Bool.and_eq_true, decide_eq_true_eq] at hB
  obtain ⟨⟨⟨⟨hsel, hn⟩, hs⟩, hc⟩, hlex⟩ := hB
  have hn' : n < l.length := by simpa using hn
  have htl : (l.take n).length = n := by simp; omega
  have hdl : (l.drop n).length = l.toArray.size - n := by simp
  have inv0 : HeadInv .any l.toArray n (Array.replicate l.toArray.size false) :=
    ⟨by simp, fun j oj _ hl => (by rw [getD_replicate_false] at hl; cases hl), fun t _ ht => getD_in (by simpa using ht) (getD_replicate_false _ _)⟩
  have H := headQ_lex (md := .any) (g := l.toArray.size - n) hsel hs hc hn (l.take n) 0 _ a (fun j hj => by rw [htl] at hj; simp [hj]) (by simpa using htl) inv0 (by rw [htl]; exact hlex) h
  refine wpIn_region_any hm ?_
  have h2 := wpAnyIn_of_headQ (C := fun w' => ∃ k, w' = w.drewN k) (R := R) (m := m) hO hD (g := l.toArray.size - n) (fun d a' w' hw' hL => by
    have h3 := wpAnyIn_of_seq (F := F) (m := m) (P := P) (md := .any) (R := R) (l.drop n) n d a' w' (fun j => by simp [List.getElem?_drop]) (by rw [hdl]; exact hL.1) (hL.2 w' hw')
    rwa [hdl] at h3) _ _ _ { w with drawn := w.drawn + 1 } ⟨1, rfl⟩ H
  rw [htl, show n + (l.toArray.size - n) = l.toArray.size by omega] at h2
  exact h2
theorem wpAnyIn_of_quiet' (hO : Open F) (hD : noDefer ops = true) {K : Act → Prop} {R : Exit → Act → World → Prop} (hQ : ∀ a w, C w → K a → R .normal a w) (f : Nat) : ∀ (d : Array Bool) (a : Act) (w : World), C w →
    wpAnyQ P md ops C K f d a → wpAnyIn F m P md ops R f d a w := by
  induction f with
  | zero => intro d a w hw h; exact ⟨h.1, hQ _ _ hw h.2⟩
  | succ f ih => intro d a w hw h; exact ⟨fun h0 => hQ _ _ hw (h.1 h0), fun i hi => wpOpIn_of_qOp hO hD hw (fun a' w' hw' => ih _ a' w' hw') (h.2 i hi)⟩
theorem wpIn_region_quiet_all (hO : Open F) {id : Nat} {R : Exit → Act → World → Prop} {a : Act} {w : World} {l : List Oper} (hm : P.follows .mixedOrders = true) (hD : noDefer l.toArray = true) (hB : Region.lexB .any l.toArray = true)
    (h : wpQuiet P l.toArray (fun w' => ∃ k, w' = w.drewN k) (fun a' => ∀ w', (∃ k, w' = w.drewN k) → R .normal a' w') l a) : (Code.region id l.toArray true).wpIn F m P R a w := by
  simp only [Region.lexB, Bool.and_eq_true] at hB
  refine wpIn_region_any hm (wpAnyIn_of_quiet' (C := fun w' => ∃ k, w' = w.drewN k) hO hD (K := fun a' => ∀ w', (∃ k, w' = w.drewN k) → R .normal a' w') (fun _ w' hw' h => h w' hw') _ _ _ _ ⟨1, rfl⟩ ?_)
  have := wpAnyQ_lex (C := fun w' => ∃ k, w' = w.drewN k) (md := .any) hB.1 l 0 (Array.replicate l.toArray.size false) a (by simp) (by simpa using hB.2) h
  simpa using this
end
theorem ret_int {k : IntKind} {a b : Int} (h : a = b) : Ending.returned (.int k a) = .returned (.int k b) := by rw [h]
theorem ret_bool {a b : Bool} (h : a = b) : Ending.returned (.bool a) = .returned (.bool b) := by rw [h]
theorem pow_cast (v : Nat) : ((2:Int)^v) = ((2^v : Nat) : Int) := by simp
def geti (xs : List Int) (i : Nat) : Int := xs.getD i 0
def IntsAt (w : World) (A : Option Addr) (xs : List Int) : Prop :=
  0 < xs.length → ∃ b o, A = some ⟨b, o, none⟩ ∧ b < w.heap.size ∧ ∀ i, i < xs.length → w.cell? ⟨b, o + i, none⟩ = some (.int .i64 (geti xs i))
theorem geti_eq {xs : List Int} {i : Nat} (h : i < xs.length) : geti xs i = xs[i] := by unfold geti; simp [h]
theorem ext_geti {xs ys : List Int} (h : xs.length = ys.length) (h2 : ∀ i, i < xs.length → geti xs i = geti ys i) : xs = ys := by
  apply List.ext_getElem h; intro i h1 h3; have := h2 i h1; rwa [geti_eq h1, geti_eq h3] at this
theorem ints_any (A B : Option Addr) (c d : Nat) (xs ys : List Int) (w : World) (hx : xs.length ≤ 1000000) (hy : ys.length ≤ 1000000) (ha : IntsAt w A xs) (hb : IntsAt w B ys) :
    Calls Try.prog 23 #[.slice A xs.length c, .slice B ys.length d] w fun e w' => e = .returned (.bool (decide (xs = ys))) ∧ ∃ n, w' = w.drewN n := by
  by_cases hl : xs.length = ys.length
  · have hl2 : ((xs.length : Int) != ys.length) = false := by simp [hl]
    go_enter Try.func23, Try.ntmps23
    go_wp2
    go_loopw [5] (fun i wr => ∃ k n : Nat, k ≤ xs.length ∧ i = .int .i64 k ∧ wr = w.drewN n ∧ ∀ j, j < k → geti xs j = geti ys j) (fun i _ => xs.length - (intOf i).toNat)
    case atStart => exact ⟨0, 0, by omega, rfl, rfl, by intro j hj; omega⟩
    case round =>
      obtain ⟨k, n, hk, rfl, rfl, hj⟩ := hrel
      by_cases hlt : k < xs.length
      · obtain ⟨b, o, rfl, hb1, hc⟩ := ha (by omega)
        obtain ⟨b', o', rfl, hb1', hc'⟩ := hb (by omega)
        have h1 := hc k hlt
        have h2 := hc' k (by omega)
        have h3 : k < ys.length := by omega
        clear hc hc'
        go_wp2
        go_quiet (fail)
        go_wp2
        · go_ret
          refine ⟨ret_bool ?_, n + nq, World.drewN_drewN _ _ _⟩
          have hne : (geti xs k != geti ys k) = true := by assumption
          symm; apply decide_eq_false; rintro rfl; simp at hne
        · go_roundw
          case rel =>
            refine ⟨k + 1, n + nq, by omega, by go_num, by first | rfl | exact World.drewN_drewN _ _ _, fun j hj2 => ?_⟩
            have hne : (geti xs k != geti ys k) = false := by assumption
            by_cases h : j = k
            · subst h; simpa using hne
            · exact hj j (by omega)
          case measure => simp [intOf]; omega
      · go_wp2
        go_ret
        refine ⟨ret_bool ?_, n, rfl⟩
        symm; apply decide_eq_true; exact ext_geti hl (fun i hi => hj i (by omega))
  · have hl2 : ((xs.length : Int) != ys.length) = true := by simp; omega
    go_enter Try.func23, Try.ntmps23
    go_wp2
    go_ret
    refine ⟨ret_bool ?_, 0, rfl⟩
    symm; apply decide_eq_false; rintro rfl; exact hl rfl
theorem below_drewN {w : World} {B : Nat} (n : Nat) : Below B w (w.drewN n) := ⟨rfl, rfl, rfl, Nat.le_refl _, fun _ _ => rfl⟩
theorem quiet_same {P : Program} {f : FuncId} {args : Array Value} {w : World} {n : Nat} {v : Value}
    (h : Calls P f args (w.drewN n) fun e w' => e = .returned v ∧ w.drewN n = w') : Calls P f args (w.drewN n) fun e w'' => e = .returned v ∧ ∃ m, w'' = w.drewN m :=
  h.mono fun _ _ ⟨he, hm⟩ => ⟨he, n, hm.symm⟩
theorem quiet_same2 {P : Program} {f : FuncId} {args : Array Value} {w : World} {a n : Nat} {v : Value}
    (h : Calls P f args (w.drewN (a + n)) fun e w' => e = .returned v ∧ w.drewN (a + n) = w') : Calls P f args (w.drewN (a + n)) fun e w'' => e = .returned v ∧ ∃ m, w'' = w.drewN (a + m) :=
  h.mono fun _ _ ⟨he, hm⟩ => ⟨he, n, hm.symm⟩
theorem quiet_of2 {P : Program} {f : FuncId} {args : Array Value} {w : World} {a n : Nat} {v : Value}
    (h : Calls P f args (w.drewN (a + n)) fun e w' => e = .returned v ∧ ∃ m, w' = (w.drewN (a + n)).drewN m) : Calls P f args (w.drewN (a + n)) fun e w'' => e = .returned v ∧ ∃ m, w'' = w.drewN (a + m) :=
  h.mono fun _ _ ⟨he, m, hm⟩ => ⟨he, n + m, by rw [hm, World.drewN_drewN, Nat.add_assoc]⟩
theorem below_row {B : Nat} {a w : World} (h : Below B a w) {g : Nat} (hg : B ≤ g) (cs : Array Value) : Below B a (w.setRow g cs) :=
  h.trans ⟨rfl, rfl, rfl, by simp [World.setRow], fun k hk => by
    unfold World.setRow
    simp only [Array.getElem?_modify]
    rw [if_neg (by omega)]⟩
def modI (x : Int) (n : Nat) : Nat := (x % 18446744073709551616).toNat % n
theorem mod_wrap (x : Int) (n : Nat) (hn : 0 < n) (hn2 : n ≤ 1000000) : wrap64 ((IntKind.u64.wrap x).tmod ↑n) = (modI x n : Int) := by
  have e : IntKind.u64.wrap x = x % 18446744073709551616 := by simp [IntKind.wrap, IntKind.bits, IntKind.signed]
  rw [e]
  unfold modI
  have h0 : 0 ≤ x % 18446744073709551616 := by omega
  generalize x % 18446744073709551616 = r at *
  obtain ⟨m, rfl⟩ := Int.eq_ofNat_of_zero_le h0
  have e2 : Int.tmod (m:Int) (n:Int) = ((m % n : Nat) : Int) := rfl
  have h3 : m % n < n := Nat.mod_lt _ hn
  rw [e2, Int.toNat_natCast, IntWalk.wrap64_in _ ⟨by omega, by omega⟩]
theorem mod_any (x : Int) (n : Nat) (w : World) (hn : 0 < n) (hn2 : n ≤ 1000000) :
    Calls Try.prog 44 #[.int .i64 x, .int .i64 n] w fun e w' => e = .returned (.int .i64 (modI x n)) ∧ w = w' := by
  have H := Lib.hid (mod_wrap x n hn hn2)
  go_enter Try.func44, Try.ntmps44
  go_wp2
  go_ret
  exact ⟨ret_int H.out, rfl⟩
/-- Block g is just these cells, none frozen. -/
theorem push_modify (h : Array Obj) (o : Obj) (f : Obj → Obj) : (h.push o).modify h.size f = h.push (f o) := by
  apply Array.ext_getElem?
  intro i
  rw [Array.getElem?_modify, Array.getElem?_push, Array.getElem?_push]
  by_cases e : i = h.size
  · subst e; simp
  · have : ¬ h.size = i := fun e' => e e'.symm
    simp [e, this]
def slen : Value → Nat
  | .slice _ n _ => n
  | _ => 0
theorem own_slen {w : World} {b n : Nat} {e : TypeId} {z : Nat} {v : Value} {xs : List Value} (h : w.ownsRow b e z v n xs) : slen v = n := by
  rcases h.2 with ⟨rfl, h0⟩ | ⟨g, cap, cur, rfl, _⟩
  · exact h0.symm
  · rfl
def Row (w : World) (g : Nat) (t : TypeId) (cs : List Value) : Prop := w.heap[g]? = some (.cells cs.toArray t (0, 0))
theorem Row.lt {w : World} {g : Nat} {t : TypeId} {cs : List Value} (h : Row w g t cs) : g < w.heap.size := (Array.getElem?_eq_some_iff.1 h).1
theorem Row.cell {w : World} {g : Nat} {t : TypeId} {cs : List Value} (h : Row w g t cs) (i : Nat) : w.cell? ⟨g, i, none⟩ = cs[i]? := by
  rw [cell_of_row w g i _ _ _ h]; simp
theorem Row.free {w : World} {g : Nat} {t : TypeId} {cs : List Value} (h : Row w g t cs) (i : Nat) : w.frozen? ⟨g, i, none⟩ = false := frozen_of_row w g i _ t h
theorem Row.new (w : World) (t : TypeId) (cs : List Value) : Row (w.alloc (.cells cs.toArray t)) w.heap.size t cs := heap_alloc_new w _
theorem Row.cells2 {w : World} {g : Nat} {t : TypeId} {a b : Value} (h : Row w g t [a, b]) : (w.cell? ⟨g, 0, none⟩ = some a ∧ w.cell? ⟨g, 1, none⟩ = some b) ∧ (w.frozen? ⟨g, 0, none⟩ = false ∧ w.frozen? ⟨g, 1, none⟩ = false) := ⟨⟨h.cell 0, h.cell 1⟩, h.free 0, h.free 1⟩
theorem Row.cells1 {w : World} {g : Nat} {t : TypeId} {a : Value} (h : Row w g t [a]) : w.cell? ⟨g, 0, none⟩ = some a ∧ w.frozen? ⟨g, 0, none⟩ = false := ⟨h.cell 0, h.free 0⟩
theorem row_new {W : World} {g : Nat} {t : TypeId} {cs : List Value} (h : W.heap.size = g) : Row (W.alloc (.cells cs.toArray t)) g t cs := by subst h; exact Row.new W t cs
theorem Row.drewN {w : World} {g : Nat} {t : TypeId} {cs : List Value} (h : Row w g t cs) (n : Nat) : Row (w.drewN n) g t cs := h
theorem Row.drew {w : World} {g : Nat} {t : TypeId} {cs : List Value} (h : Row w g t cs) : Row w.drew g t cs := h
theorem Row.alloc {w : World} {g : Nat} {t : TypeId} {cs : List Value} (h : Row w g t cs) (o : Obj) : Row (w.alloc o) g t cs := (Below.heap_alloc w o g h.lt).trans h
theorem Row.set {w : World} {g : Nat} {t : TypeId} {cs : List Value} (h : Row w g t cs) (i : Nat) (u : Value) : Row (w.setCell ⟨g, i, none⟩ u) g t (cs.set i u) := by
  unfold Row at h ⊢
  simp [World.setCell, Array.getElem?_modify, h]
theorem Row.row {w : World} {g : Nat} {t : TypeId} {cs : List Value} (h : Row w g t cs) (cs' : List Value) : Row (w.setRow g cs'.toArray) g t cs' := by
  unfold Row at h ⊢
  simp [World.setRow, Array.getElem?_modify, h]
theorem Row.row_far {w : World} {g k : Nat} {t : TypeId} {cs : List Value} (h : Row w g t cs) (hk : g ≠ k) (cs' : Array Value) : Row (w.setRow k cs') g t cs := by
  unfold Row at h ⊢
  simp only [World.setRow, Array.getElem?_modify]
  rw [if_neg (by omega)]; exact h
theorem Row.far {w : World} {g : Nat} {t : TypeId} {cs : List Value} (h : Row w g t cs) {p : Addr} (hp : g ≠ p.block) (u : Value) : Row (w.setCell p u) g t cs := (Below.heap_setCell w p u g hp).trans h
theorem Row.grown {w w' : World} {g : Nat} {t : TypeId} {cs : List Value} {row : Option Nat} (h : Row w g t cs) (hg : w.grownBy w' row) (hr : some g ≠ row) : Row w' g t cs := (hg.block g h.lt hr).trans h
theorem Row.below {w w' : World} {g : Nat} {t : TypeId} {cs : List Value} (h : Row w g t cs) (k : Below w.heap.size w w') : Row w' g t cs := (k.block g h.lt).trans h
theorem _root_.Go.World.ownsRow.kept' {w w' : World} {base : Nat} {e : TypeId} {size n : Nat} {v : Value} {xs : List Value} (h : w.ownsRow base e size v n xs) (hb : Below w.heap.size w w') : w'.ownsRow base e size v n xs := by
  refine ⟨h.1, ?_⟩
  rcases h.2 with hn | ⟨g, cap, cur, rfl, hbg, hgg, rest⟩
  · exact .inl hn
  · exact .inr ⟨g, cap, cur, rfl, hbg, (hb.block g (Array.getElem?_eq_some_iff.1 hgg).1).trans hgg, rest⟩
theorem own_ge {w : World} {base : Nat} {e : TypeId} {size n : Nat} {v : Value} {xs : List Value} (h : w.ownsRow base e size v n xs) {g : Nat} (hg : v.ownBlock = some g) : base ≤ g ∧ g < w.heap.size ∧ ∃ cs, w.heap[g]? = some (.cells cs e (0, 0)) := by
  rcases h.2 with ⟨rfl, _⟩ | ⟨g', cap, cur, rfl, hb, hgg, _⟩
  · simp [Value.ownBlock] at hg
  · have : g' = g := by simpa [Value.ownBlock] using hg
    subst this
    exact ⟨hb, (Array.getElem?_eq_some_iff.1 hgg).1, _, hgg⟩
theorem Row.not_own {w : World} {base : Nat} {e t : TypeId} {size n g : Nat} {v : Value} {xs cs : List Value} (hr : Row w g t cs) (h : w.ownsRow base e size v n xs) (hte : t ≠ e) : some g ≠ v.ownBlock := by
  intro he
  obtain ⟨_, _, cs', h3⟩ := own_ge h he.symm
  unfold Row at hr
  rw [hr] at h3
  injection h3 with h3; injection h3 with _ h4
  exact hte h4
theorem info3 : (Try.prog.info? 3).map (fun i => (i.zero, i.size, i.bytes)) = some (some (.int .i64 0), 1, 8) := by kernel_rfl
def intv (xs : List Nat) : List Value := xs.map fun x : Nat => Value.int .i64 x
theorem row_heap {w : World} {g : Nat} {t : TypeId} {cs : List Value} (h : Row w g t cs) : w.heap[g]? = some (.cells cs.toArray t (0, 0)) := h
def natI (xs : List Nat) : List Int := xs.map fun x : Nat => (x : Int)
def getn (xs : List Nat) (k : Nat) : Nat := xs.getD k 0
theorem natI_len (xs : List Nat) : (natI xs).length = xs.length := by simp [natI]
theorem geti_natI (xs : List Nat) (k : Nat) : geti (natI xs) k = (getn xs k : Int) := by
  unfold geti natI getn
  rw [List.getD_eq_getElem?_getD, List.getD_eq_getElem?_getD, List.getElem?_map]
  cases xs[k]? <;> rfl
theorem getn_mem {xs : List Nat} {k : Nat} (h : k < xs.length) : getn xs k ∈ xs := by
  unfold getn; rw [List.getD_eq_getElem?_getD, List.getElem?_eq_getElem h]; exact List.getElem_mem h
theorem getn_eq {xs : List Nat} {k : Nat} (h : k < xs.length) : getn xs k = xs[k] := by
  unfold getn; rw [List.getD_eq_getElem?_getD, List.getElem?_eq_getElem h]; rfl
theorem setRow_alloc (w : World) (a b : Array Value) (t : TypeId) : (w.alloc (.cells a t)).setRow w.heap.size b = w.alloc (.cells b t) := by
  show ({ w with heap := (w.heap.push (.cells a t)).modify w.heap.size _ } : World) = { w with heap := w.heap.push (.cells b t) }
  rw [push_modify]
/-- A row of numbers that the call owns, read. -/
theorem own_ints {w : World} {b n : Nat} {v : Value} {xs : List Nat} (h : w.ownsRow b 3 1 v n (intv xs)) : ∃ A c, v = .slice A xs.length c ∧ n = xs.length ∧ IntsAt w A (natI xs) := by
  have hl : xs.length = n := by have := h.1; simpa [intv] using this
  subst hl
  rcases h.2 with ⟨rfl, h0⟩ | ⟨g, cap, cur, rfl, hb, hg, hc, _, hs, ht⟩
  · refine ⟨none, 0, by rw [h0], rfl, fun hp => ?_⟩
    rw [natI_len] at hp; omega
  · refine ⟨some ⟨g, 0, none⟩, cap, rfl, rfl, fun _ => ⟨g, 0, rfl, (Array.getElem?_eq_some_iff.1 hg).1, fun i hi => ?_⟩⟩
    rw [natI_len] at hi
    rw [cell_of_row w g _ _ _ _ hg, geti_natI]
    have e1 : cur.toList[0 + i]? = (intv xs)[i]? := by rw [← ht, List.getElem?_take, if_pos (by omega), Nat.zero_add]
    rw [← Array.getElem?_toList, e1]
    unfold intv
    rw [List.getElem?_map, List.getElem?_eq_getElem hi, getn_eq hi]; rfl
theorem own_mono {w : World} {b b' n : Nat} {e : TypeId} {z : Nat} {v : Value} {xs : List Value} (h : w.ownsRow b e z v n xs) (hb : b' ≤ b) : w.ownsRow b' e z v n xs := by
  refine ⟨h.1, ?_⟩
  rcases h.2 with h | ⟨g, cap, cur, h1, h2, h3⟩
  · exact .inl h
  · exact .inr ⟨g, cap, cur, h1, Nat.le_trans hb h2, h3⟩
theorem made_ints (m : Nat) : (madeCells (Value.int .i64 0).cells (m * 1)).toList = intv (List.replicate m 0) := by
  unfold madeCells intv
  have : (Value.int .i64 0).cells = #[.int .i64 0] := rfl
  rw [this]
  apply List.ext_getElem?
  intro i
  by_cases h : i < m
  · simp [Nat.mod_one, h]
  · simp [Nat.mod_one, h]
theorem own_made {w : World} {b g m : Nat} (h : w.ownsRow b 3 1 (.slice (some ⟨g, 0, none⟩) m m) m (madeCells (Value.int .i64 0).cells (m * 1)).toList) : Row w g 3 (intv (List.replicate m 0)) := by
  rw [made_ints] at h
  rcases h.2 with ⟨h, _⟩ | ⟨g', cap, cur, h, hb, hg, hc, _, hs, ht⟩
  · cases h
  · injection h with h1 _ h2; injection h1 with h1; injection h1 with h1; subst h1; subst h2
    unfold Row
    rw [hg, ← ht]
    congr 2
    rw [List.take_of_length_le (by simp; omega)]
theorem IntsAt.below {w w' : World} {A : Option Addr} {xs : List Int} (h : IntsAt w A xs) (hg : Below w.heap.size w w') : IntsAt w' A xs := fun hp => by
  obtain ⟨b, o, e, hb, hc⟩ := h hp
  exact ⟨b, o, e, Nat.lt_of_lt_of_le hb hg.size, fun i hi => (hg.cell (p := ⟨b, _, none⟩) hb).trans (hc i hi)⟩
theorem row_ints {w : World} {g : Nat} {t : TypeId} {xs : List Nat} (h : Row w g t (intv xs)) : IntsAt w (some ⟨g, 0, none⟩) (natI xs) := fun _ => ⟨g, 0, rfl, h.lt, fun i hi => by
  rw [natI_len] at hi
  rw [Nat.zero_add, h.cell, geti_natI]
  unfold intv
  rw [List.getElem?_map, List.getElem?_eq_getElem hi, getn_eq hi]; rfl⟩
/-- An append to a row of the call's own. -/
theorem app1 {W w5 : World} {n₀ : Nat} {e : TypeId} {z k : Nat} {v1 : Value} {xs : List Value} (h1 : W.ownsRow n₀ e z v1 k xs) (hn : n₀ ≤ W.heap.size) {o : Obj}
    (hgr : (W.alloc o).grownBy w5 v1.ownBlock) : Below n₀ W w5 ∧ (∀ g t cs, t ≠ e → Row W g t cs → Row w5 g t cs) :=
  ⟨((Below.refl n₀ W).alloc hn o).grown hgr (by simp; omega) (fun g hg => (own_ge h1 hg).1), fun _ _ _ ht hr => (hr.alloc o).grown hgr (hr.not_own h1 ht)⟩
theorem intv_row {w : World} {g : Nat} {t : TypeId} {xs : List Nat} (h : Row w g t (intv xs)) {i : Nat} (hi : i < xs.length) : w.cell? ⟨g, i, none⟩ = some (.int .i64 (getn xs i)) := by
  rw [h.cell]; unfold intv; rw [List.getElem?_map, List.getElem?_eq_getElem hi, getn_eq hi]; rfl
theorem getn_set {xs : List Nat} {i x j : Nat} (h : i < xs.length) : getn (xs.set i x) j = if i = j then x else getn xs j := by
  unfold getn
  rw [List.getD_eq_getElem?_getD, List.getD_eq_getElem?_getD, List.getElem?_set]
  split
  · rename_i e; subst e; first | rfl | (rw [if_pos h]; rfl)
  · rfl
theorem own_set {w : World} {b n : Nat} {e : TypeId} {z : Nat} {v : Value} {xs : List Value} (h : w.ownsRow b e z v n xs) {p : Addr} (hp : p.block < b) (u : Value) : (w.setCell p u).ownsRow b e z v n xs := by
  refine ⟨h.1, ?_⟩
  rcases h.2 with hn | ⟨g, cap, cur, rfl, hbg, hgg, rest⟩
  · exact .inl hn
  · exact .inr ⟨g, cap, cur, rfl, hbg, (Below.heap_setCell w p u g (by omega)).trans hgg, rest⟩
theorem Row.range {w : World} {g : Nat} {t : TypeId} {cs : List Value} (h : Row w g t cs) : w.rangeAt g 0 cs := fun j v hj => by rw [Nat.zero_add, h.cell]; exact hj
theorem intv_set {bs : List Nat} {i x : Nat} : (intv bs).set i (.int .i64 x) = intv (bs.set i x) := by unfold intv; rw [List.map_set]
theorem Row.ne {W : World} {a b : Nat} {t t' : TypeId} {cs cs' : List Value} (h : Row W a t cs) (h' : Row W b t' cs') (ht : t ≠ t') : a ≠ b := by
  intro e; subst e
  unfold Row at h h'
  rw [h] at h'; injection h' with h'; injection h' with _ h4; exact ht h4
theorem ints_yes (A B : Option Addr) (c d : Nat) (xs : List Int) (n : Nat) (w : World) (hn : xs.length = n) (hx : n ≤ 1000000) (ha : IntsAt w A xs) (hb : IntsAt w B xs) :
    Calls Try.prog 23 #[.slice A n c, .slice B n d] w fun e w' => e = .returned (.bool true) ∧ ∃ n, w' = w.drewN n := by
  subst hn
  refine (ints_any A B c d xs xs w hx hx ha hb).mono fun e w' ⟨h1, h2⟩ => ⟨by rw [h1]; simp, h2⟩
theorem IntsAt.alloc {w : World} {A : Option Addr} {ps : List Int} (h : IntsAt w A ps) (o : Obj) : IntsAt (w.alloc o) A ps := h.below ((Below.refl _ _).alloc (Nat.le_refl _) o)
theorem IntsAt.drewN {w : World} {A : Option Addr} {ps : List Int} (h : IntsAt w A ps) (n : Nat) : IntsAt (w.drewN n) A ps := h.below (below_drewN n)
def iv (xs : List Int) : List Value := xs.map (Value.int .i64)
theorem iv_len (xs : List Int) : (iv xs).length = xs.length := List.length_map _
theorem iv_one (xs : List Int) : ∀ u ∈ iv xs, u.oneCell' = true := by
  intro u hu
  unfold iv at hu
  obtain ⟨x, _, rfl⟩ := List.mem_map.1 hu
  rfl
theorem own_intsI {w : World} {b n : Nat} {t : TypeId} {v : Value} {xs : List Int} (h : w.ownsRow b t 1 v n (iv xs)) : ∃ A c, v = .slice A xs.length c ∧ n = xs.length ∧ xs.length ≤ c ∧ IntsAt w A xs := by
  have hl : xs.length = n := by have := h.1; rw [iv_len] at this; omega
  subst hl
  rcases h.2 with ⟨rfl, h0⟩ | ⟨g, cap, cur, rfl, hb, hg, hc, _, hs, ht⟩
  · exact ⟨none, 0, by rw [h0], rfl, by omega, fun hp => by omega⟩
  · refine ⟨_, cap, rfl, rfl, hc, fun hp => ⟨g, 0, rfl, (Array.getElem?_eq_some_iff.1 hg).1, fun i hi => ?_⟩⟩
    have := h.cells (g := g) rfl i (.int .i64 (geti xs i)) (by unfold iv; rw [List.getElem?_map, List.getElem?_eq_getElem hi, geti_eq hi]; rfl)
    rw [WideShapes.add_plain] at this
    exact this
/-- A copy in new memory. -/
def Copied (t z : Nat) (xs : List Value) (w : World) (e : Ending) (w' : World) : Prop := ∃ v n, e = .returned v ∧ w'.ownsRow w.heap.size t z v n xs ∧ Below w.heap.size w w'
theorem Try.own : ownKnob Try.prog.godebug = none := by kernel_rfl
theorem Try.laidOut : laidOutB Try.prog = true := by kernel_rfl
theorem Try.cells3 : Try.prog.cellsOf 3 = 1 := by kernel_rfl
theorem news_one {W : World} {g : Nat} {t : TypeId} {x : Value} (h : Row W g t [x]) : ∀ j u, [x][j]? = some u → W.cell? ((⟨g, 0, none⟩ : Addr).add j) = some u := by
  intro j u hj
  rw [WideShapes.add_plain, Nat.zero_add, h.cell, hj]
theorem modI_lt (x : Int) {n : Nat} (h : 0 < n) : modI x n < n := Nat.mod_lt _ h
theorem app1' {W w5 : World} {n₀ : Nat} {e : TypeId} {z k : Nat} {v1 : Value} {xs : List Value} (h1 : W.ownsRow n₀ e z v1 k xs) (hn : n₀ ≤ W.heap.size) {o : Obj} (hgr : (W.alloc o).grownBy w5 v1.ownBlock) : Below n₀ W w5 := (app1 h1 hn hgr).1
theorem iv_snoc (xs : List Int) (x : Int) : iv (xs ++ [x]) = iv xs ++ [.int .i64 x] := by simp [iv]
theorem wrap_pow {t : Nat} (h : t ≤ 17) : IntKind.i64.wrap ((2 : Int)^t) = ((2^t : Nat) : Int) := by
  have h1 : 2^t ≤ 2^17 := Nat.pow_le_pow_right (by omega) h
  rw [pow_cast]
  generalize 2^t = N at *
  exact IntWalk.i64_in _ (by omega)
theorem wrap64_pow {t : Nat} (h : t ≤ 17) : wrap64 ((2 : Int)^t) = ((2^t : Nat) : Int) := by
  have h1 : 2^t ≤ 2^17 := Nat.pow_le_pow_right (by omega) h
  rw [pow_cast]
  generalize 2^t = N at *
  exact IntWalk.wrap64_in _ ⟨by omega, by omega⟩
/-- So many cells of a block that is not old may be written. -/
def Wr (N0 : Nat) (t : TypeId) (w : World) (A : Option Addr) (n : Nat) : Prop := 0 < n → ∃ b cs, A = some ⟨b, 0, none⟩ ∧ N0 ≤ b ∧ Row w b t cs ∧ n ≤ cs.length
theorem own_wr {w : World} {N0 n : Nat} {t : TypeId} {v : Value} {xs : List Value} (h : w.ownsRow N0 t 1 v n xs) : ∃ A c, v = .slice A n c ∧ Wr N0 t w A n := by
  rcases h.2 with ⟨rfl, h0⟩ | ⟨g, cap, cur, rfl, hb, hg, hc, _, hs, ht⟩
  · subst h0
    exact ⟨none, 0, rfl, fun h => absurd h (by omega)⟩
  · exact ⟨_, cap, rfl, fun _ => ⟨g, cur.toList, rfl, hb, hg, by rw [Array.length_toList, hs]; omega⟩⟩
theorem step_append_own_at {P : Program} {ops : Array Oper} {o : Oper} {a : Act} {w : World} {K : Act → World → Prop} {Q : Exit → Act → World → Prop} {E : Prop}
    (hg : o.guard = none) (s x : Operand) (t : TypeId) (hop : o.op = Op.call { callee := Callee.builtin Builtin.append, args := #[s, x], argTypes := #[t, t] })
    (base : Nat) (e : TypeId) (i : TypeInfo) (z : Value) (size bytes : Nat) (ht : P.underlying t = some (.slice e)) (hi : P.info? e = some i) (hz : i.zero = some z)
    (hsize : i.size = size) (hby : i.bytes = bytes) (hzs : z.cells.size = size) (hsz : 0 < size)
    (v : Value) (n : Nat) (xs : List Value) (hs : a.eval s = v) (hown : w.ownsRow base e size v n xs)
    (ad : Addr) (m c : Nat) (news : List Value) (hx : a.eval x = .slice (some ad) m c) (hl : news.length = m * size) (hnews : ∀ j u, news[j]? = some u → w.cell? (ad.add j) = some u) (h1 : ∀ u ∈ news, u.oneCell' = true)
    (h63 : n + m ≤ maxLen) (hbytes : (n + m) * bytes ≤ 140737488355328) (hbase : base ≤ w.heap.size)
    (hK : ∀ v' w', w'.ownsRow base e size v' (n + m) (xs ++ news) → w.grownBy w' v.ownBlock → K (a.put o.dst v') w') :
    if Region.wanted o (yielded ops a.tmps) = true then Oper.wp P o a w K Q else E := by
  have hw : Region.wanted o (yielded ops a.tmps) = true := by simp [Region.wanted, hg]
  rw [if_pos hw]
  obtain ⟨v', w', hr, h2, h3, h4, h5⟩ := run_append_own_at (P := P) w base t o.type e i z size bytes ht hi hz hsize hby hzs hsz v n xs hown ad m c news hl hnews h1 h63 hbytes hbase
  unfold Oper.wp execOp
  simp only [hop, resolve, invoke, builtin, Sem.run_bind, Sem.run_pure, Result.andThen_ok, List.map_toArray, List.map_cons, List.map_nil, hs, hx, hr]
  exact hK v' w' h2 h3
theorem wp_append_own_at {P : Program} {o : Oper} {a : Act} {w : World} {K : Act → World → Prop} {Q : Exit → Act → World → Prop}
    (s x : Operand) (t : TypeId) (hop : o.op = Op.call { callee := Callee.builtin Builtin.append, args := #[s, x], argTypes := #[t, t] })
    (base : Nat) (e : TypeId) (i : TypeInfo) (z : Value) (size bytes : Nat) (ht : P.underlying t = some (.slice e)) (hi : P.info? e = some i) (hz : i.zero = some z)
    (hsize : i.size = size) (hby : i.bytes = bytes) (hzs : z.cells.size = size) (hsz : 0 < size)
    (v : Value) (n : Nat) (xs : List Value) (hs : a.eval s = v) (hown : w.ownsRow base e size v n xs)
    (ad : Addr) (m c : Nat) (news : List Value) (hx : a.eval x = .slice (some ad) m c) (hl : news.length = m * size) (hnews : ∀ j u, news[j]? = some u → w.cell? (ad.add j) = some u) (h1 : ∀ u ∈ news, u.oneCell' = true)
    (h63 : n + m ≤ maxLen) (hbytes : (n + m) * bytes ≤ 140737488355328) (hbase : base ≤ w.heap.size)
    (hK : ∀ v' w', w'.ownsRow base e size v' (n + m) (xs ++ news) → w.grownBy w' v.ownBlock → K (a.put o.dst v') w') :
    Oper.wp P o a w K Q := by
  obtain ⟨v', w', hr, h2, h3, h4, h5⟩ := run_append_own_at (P := P) w base t o.type e i z size bytes ht hi hz hsize hby hzs hsz v n xs hown ad m c news hl hnews h1 h63 hbytes hbase
  unfold Oper.wp execOp
  simp only [hop, resolve, invoke, builtin, Sem.run_bind, Sem.run_pure, Result.andThen_ok, List.map_toArray, List.map_cons, List.map_nil, hs, hx, hr]
  exact hK v' w' h2 h3
theorem iv_at {w : World} {A : Option Addr} {xs : List Int} {g : Nat} (h : IntsAt w A xs) (e : A = some ⟨g, 0, none⟩) : ∀ j u, (iv xs)[j]? = some u → w.cell? ((⟨g, 0, none⟩ : Addr).add j) = some u := by
  intro j u hj
  have hlt : j < xs.length := by
    have := (List.getElem?_eq_some_iff.1 hj).1
    rwa [iv_len] at this
  obtain ⟨b, o, e2, _, hc⟩ := h (by omega)
  rw [e] at e2
  injection e2 with e2
  injection e2 with e2 e3
  subst e2 e3
  have := hc j hlt
  rw [Nat.zero_add] at this
  rw [WideShapes.add_plain, Nat.zero_add, this]
  unfold iv at hj
  rw [List.getElem?_map, List.getElem?_eq_getElem hlt] at hj
  rw [geti_eq hlt]
  exact hj
end Go.Proofs.Ytokjdadgdfmffaa
