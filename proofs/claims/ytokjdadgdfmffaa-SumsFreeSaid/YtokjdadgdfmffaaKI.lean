/- What is known of parts: maps from elements to lists of positions. -/
import Derived.Test.YtokjdadgdfmffaaKH
import Derived.Maps.OwnSet
import Derived.DeepKeys5
namespace Go.Proofs.Ytokjdadgdfmffaa
open Go.RowKit
set_option maxHeartbeats 1000000
set_option maxRecDepth 100000
theorem K69 : Maps.Keyed Try.prog 69 := Maps.Keyed.of_law (deep_law_gate Try.laidOut (of_decide_eq_true (by kernel_rfl)) (of_decide_eq_true (by kernel_rfl)) (by kernel_rfl) (by kernel_rfl))
theorem wf_el {m : Nat} {a : Int} (hm : m ≤ 24) (h : 0 ≤ a ∧ a < m) : (Lit.int .i64 a).wf = true := by
  have h1 : IntKind.i64.min = -9223372036854775808 := by decide
  have h2 : IntKind.i64.max = 9223372036854775807 := by decide
  simp [Lit.wf, h1, h2]
  omega
theorem key_one {a : Int} (h : (Lit.int .i64 a).wf = true) (d : Nat) : Try.prog.keyLits (d + 1) 3 [.int .i64 a] = some [.int .i64 a] := by
  simp [Program.keyLits, Try.underlying3, h]
theorem key69 {a b : Int} (ha : (Lit.int .i64 a).wf = true) (hb : (Lit.int .i64 b).wf = true) : keyOf Try.prog 69 (pv a b) = some (.string (keyBytes [.int .i64 a, .int .i64 b])) := by
  have hk : Try.prog.keyType 69 = true := by kernel_rfl
  have c69 : Try.prog.cellsOf 69 = 2 := by kernel_rfl
  have c3 : Try.prog.cellsOf 3 = 1 := by kernel_rfl
  have hl : ∀ d, Try.prog.keyLits (d + 1 + 1) 69 [.int .i64 a, .int .i64 b] = some [.int .i64 a, .int .i64 b] := fun d => by
    unfold Program.keyLits
    simp only [Try.underlying69]
    simp [c69, c3, List.range_succ, key_one ha, key_one hb]
  unfold keyOf
  rw [Try.underlying69]
  simp [hk, Value.formed, Try.underlying69, c69, Value.cells]
  exact ⟨_, hl _, rfl⟩
/-- The key of an element. -/
noncomputable def KE (a b : Int) : Lit := (keyOf Try.prog 69 (pv a b)).getD (.bool false)
theorem key_el {m n : Nat} {a b : Int} (hg : Gr m n) (h : El m n a b) : keyOf Try.prog 69 (pv a b) = some (KE a b) := by
  have := key69 (wf_el hg.2.1 ⟨h.1, h.2.1⟩) (wf_el hg.2.2.2 ⟨h.2.2.1, h.2.2.2⟩)
  unfold KE
  rw [this]; rfl
theorem KE_inj {m n : Nat} {a b c d : Int} (hg : Gr m n) (h : El m n a b) (h2 : El m n c d) (e : KE a b = KE c d) : a = c ∧ b = d := by
  have h1 := key_el hg h
  have h3 := key_el hg h2
  rw [e] at h1
  have e := K69.inj h1 h3
  injection e with e
  have e2 := congrArg Array.toList e
  injection e2 with e3 e4
  injection e4 with e4 e5
  injection e3 with _ e3
  injection e4 with _ e4
  exact ⟨e3, e4⟩
/-- How a slice is read. -/
def slR : Value → Option (DataW Unit × List MemPlace)
  | .slice none 0 0 => some (.agg [], [])
  | .slice (some ⟨b, o, none⟩) n c => some (.agg [.lit (.int .i64 b), .lit (.int .i64 o), .lit (.int .i64 n), .lit (.int .i64 c)], [])
  | _ => none
theorem slR_some {b o n c : Nat} : slR (.slice (some ⟨b, o, none⟩) n c) = some (.agg [.lit (.int .i64 b), .lit (.int .i64 o), .lit (.int .i64 n), .lit (.int .i64 c)], []) := rfl
theorem slR_nil_inv {v : Value} {ps : List MemPlace} (h : slR v = some (.agg [], ps)) : v = .slice none 0 0 := by
  unfold slR at h
  split at h
  · rfl
  · injection h with h; injection h with h; injection h with h; cases h
  · cases h
theorem slR_some_inv {v : Value} {b o n c : Nat} {ps : List MemPlace} (h : slR v = some (.agg [.lit (.int .i64 b), .lit (.int .i64 o), .lit (.int .i64 n), .lit (.int .i64 c)], ps)) : v = .slice (some ⟨b, o, none⟩) n c := by
  unfold slR at h
  split at h
  · injection h with h; injection h with h; injection h with h; cases h
  · injection h with h
    injection h with h
    injection h with h
    injection h with h1 h
    injection h with h2 h
    injection h with h3 h
    injection h with h4 h
    injection h1 with h1; injection h1 with _ h1
    injection h2 with h2; injection h2 with _ h2
    injection h3 with h3; injection h3 with _ h3
    injection h4 with h4; injection h4 with _ h4
    have e1 := Int.ofNat.inj h1
    have e2 := Int.ofNat.inj h2
    have e3 := Int.ofNat.inj h3
    have e4 := Int.ofNat.inj h4
    subst e1 e2 e3 e4
    rfl
  · cases h
/-- A list of positions: nil if there is none. -/
def PartV (w : World) (v : Value) (xs : List Int) : Prop := (xs = [] ∧ v = .slice none 0 0) ∨ (0 < xs.length ∧ ∃ b o c, v = .slice (some ⟨b, o, none⟩) xs.length c ∧ IntsAt w (some ⟨b, o, none⟩) xs)
/-- What may change: maps from a block on. -/
structure FrM (B : Nat) (w w' : World) : Prop where
  os : w'.os = w.os
  tape : w'.tape = w.tape
  output : w'.output = w.output
  size : w.heap.size ≤ w'.heap.size
  block : ∀ k, k < w.heap.size → w'.heap[k]? = w.heap[k]? ∨ (B ≤ k ∧ (∃ es c, w.heap[k]? = some (.map es c)) ∧ ∃ es c, w'.heap[k]? = some (.map es c))
theorem FrM.refl (B : Nat) (w : World) : FrM B w w := ⟨rfl, rfl, rfl, Nat.le_refl _, fun _ _ => .inl rfl⟩
theorem FrM.trans {B : Nat} {a b c : World} (h : FrM B a b) (k : FrM B b c) : FrM B a c :=
  ⟨k.os.trans h.os, k.tape.trans h.tape, k.output.trans h.output, Nat.le_trans h.size k.size, fun i hi => by
    rcases h.block i hi with h1 | ⟨h1, h2, h3⟩
    · rcases k.block i (Nat.lt_of_lt_of_le hi h.size) with h4 | ⟨h4, h5, h6⟩
      · exact .inl (h4.trans h1)
      · rw [h1] at h5; exact .inr ⟨h4, h5, h6⟩
    · rcases k.block i (Nat.lt_of_lt_of_le hi h.size) with h4 | ⟨h4, h5, h6⟩
      · rw [← h4] at h3; exact .inr ⟨h1, h2, h3⟩
      · exact .inr ⟨h1, h2, h6⟩⟩
theorem FrM.of_below {B : Nat} {w w' : World} (h : Below w.heap.size w w') : FrM B w w' := ⟨h.os, h.tape, h.output, h.size, fun k hk => .inl (h.block k hk)⟩
theorem FrM.below {B : Nat} {w w' : World} (h : FrM B w w') (hB : B ≤ w.heap.size) : Below B w w' := ⟨h.os, h.tape, h.output, h.size, fun k hk => by
  rcases h.block k (by omega) with h1 | ⟨h1, _⟩
  · exact h1
  · omega⟩
theorem FrM.map {B b n : Nat} {H : Type} {w w' : World} {k : TypeId} {R : Value → Option (DataW H × List MemPlace)} {D D' : DataW H} (h : w.ownsMap Try.prog k R b n D) (hb : B ≤ b) (hg : w.grownBy w' (some b)) {n' : Nat} (h' : w'.ownsMap Try.prog k R b n' D') : FrM B w w' :=
  ⟨hg.os, hg.tape, hg.output, hg.size, fun i hi => by
    by_cases e : i = b
    · subst e
      obtain ⟨es, c, h1, _⟩ := h
      obtain ⟨es', c', h1', _⟩ := h'
      exact .inr ⟨hb, ⟨es, c, h1⟩, es', c', h1'⟩
    · exact .inl (hg.block i hi (fun e2 => e (by injection e2)))⟩
theorem Row.frm {B g : Nat} {w w' : World} {t : TypeId} {cs : List Value} (h : Row w g t cs) (k : FrM B w w') : Row w' g t cs := by
  rcases k.block g h.lt with h1 | ⟨_, ⟨es, c, h2⟩, _⟩
  · exact h1.trans h
  · unfold Row at h; rw [h] at h2; cases h2
theorem cell_frm {B b o : Nat} {w w' : World} {v : Value} (h : w.cell? ⟨b, o, none⟩ = some v) (k : FrM B w w') : w'.cell? ⟨b, o, none⟩ = some v := by
  have hb := block_lt_of_cell h
  rcases k.block b hb with h1 | ⟨_, ⟨es, c, h2⟩, _⟩
  · rw [World.cell?_of_block (w := w) (a := ⟨b, o, none⟩) h1]; exact h
  · exfalso
    simp [World.cell?, h2] at h
theorem IntsAt.frm {B : Nat} {w w' : World} {A : Option Addr} {xs : List Int} (h : IntsAt w A xs) (k : FrM B w w') : IntsAt w' A xs := fun hp => by
  obtain ⟨b, o, e, hb, hc⟩ := h hp
  exact ⟨b, o, e, Nat.lt_of_lt_of_le hb k.size, fun i hi => cell_frm (hc i hi) k⟩
theorem PartV.frm {B : Nat} {w w' : World} {v : Value} {xs : List Int} (h : PartV w v xs) (k : FrM B w w') : PartV w' v xs := by
  rcases h with h | ⟨h1, b, o, c, h2, h3⟩
  · exact .inl h
  · exact .inr ⟨h1, b, o, c, h2, h3.frm k⟩
theorem map_block {H : Type} {w w' : World} {k : TypeId} {R : Value → Option (DataW H × List MemPlace)} {b n : Nat} {D : DataW H} (h : w.ownsMap Try.prog k R b n D) (hb : w'.heap[b]? = w.heap[b]?) : w'.ownsMap Try.prog k R b n D := by
  obtain ⟨es, clock, h1, h2⟩ := h
  exact ⟨es, clock, hb.trans h1, h2⟩
/-- The lexicographically smallest one of the shortest non-empty parts. -/
def shF (m n : Nat) : Nat → List (Int × Int) → Int → Int → List Int
  | _, [], _, _ => []
  | i, e :: l, a, b =>
    if e.1 = a ∧ e.2 = b then [(i : Int)] else
      let p := shF m n (i + 1) l a b
      let r := shF m n (i + 1) l ((a - e.1) % m) ((b - e.2) % n)
      if 0 < r.length ∧ (p.length = 0 ∨ r.length < p.length) then (i : Int) :: r else p
theorem shF_len (m n : Nat) : ∀ (l : List (Int × Int)) (i : Nat) (a b : Int), (shF m n i l a b).length ≤ l.length
  | [], _, _, _ => by simp [shF]
  | e :: l, i, a, b => by
    have h1 := shF_len m n l (i + 1) a b
    have h2 := shF_len m n l (i + 1) ((a - e.1) % m) ((b - e.2) % n)
    unfold shF
    split
    · simp
    · dsimp only
      split
      · simp only [List.length_cons]; omega
      · simp only [List.length_cons]; omega
/-- The surroundings of a search. -/
structure Cx where
  m : Nat
  n : Nat
  es : List (Int × Int)
  L : Nat
  K : Nat
  F : Nat
  G : Nat
  g : Nat
  k : Nat
  mb : Nat → Nat
  B : Nat
def Cx.sh (X : Cx) (i : Nat) (a b : Int) : List Int := shF X.m X.n i (X.es.drop i) a b
def Cx.fn (X : Cx) : Value := .func (.func 65) #[] #[.pointer (some ⟨X.L, 0, none⟩), .pointer (some ⟨X.K, 0, none⟩), .pointer (some ⟨X.F, 0, none⟩), .pointer (some ⟨X.G, 0, none⟩)]
/-- What a map says is so. -/
def Memo (X : Cx) (i : Nat) (D : DataW Unit) (w : World) : Prop := ∀ a b, El X.m X.n a b → Maps.has D (KE a b) = true → ∃ v d, PartV w v (X.sh i a b) ∧ slR v = some (d, []) ∧ ∀ z, D.atKey (KE a b) z = d
def MapAt (X : Cx) (i c : Nat) (w : World) : Prop := ∃ D, w.ownsMap Try.prog 69 slR (X.mb i) c D ∧ Memo X i D w
structure Env (X : Cx) (cn : Nat → Nat) (w : World) : Prop where
  rl : Row w X.L 64 [.slice (some ⟨X.g, 0, none⟩) X.es.length X.es.length]
  rk : Row w X.K 87 [.slice (some ⟨X.k, 0, none⟩) X.es.length X.es.length]
  rf : Row w X.F 89 [X.fn]
  rg : Row w X.G 63 [.int .i64 X.m, .int .i64 X.n]
  re : Row w X.g 69 (pcs X.es)
  rm : Row w X.k 88 ((List.range X.es.length).map fun i => .map (some (X.mb i)))
  mp : ∀ i, i < X.es.length → MapAt X i (cn i) w
  inj : ∀ i j, i < X.es.length → j < X.es.length → X.mb i = X.mb j → i = j
  ge : ∀ i, i < X.es.length → X.B ≤ X.mb i
theorem Memo.frm {X : Cx} {i B : Nat} {D : DataW Unit} {w w' : World} (h : Memo X i D w) (k : FrM B w w') : Memo X i D w' := fun a b he hh => by
  obtain ⟨v, d, h1, h2, h3⟩ := h a b he hh
  exact ⟨v, d, h1.frm k, h2, h3⟩
theorem Env.below {X : Cx} {cn : Nat → Nat} {w w' : World} (h : Env X cn w) (k : Below w.heap.size w w') : Env X cn w' where
  rl := h.rl.below k
  rk := h.rk.below k
  rf := h.rf.below k
  rg := h.rg.below k
  re := h.re.below k
  rm := h.rm.below k
  mp := fun i hi => by
    obtain ⟨D, h1, h2⟩ := h.mp i hi
    exact ⟨D, map_block h1 (k.block _ h1.lt), h2.frm (FrM.of_below (B := 0) k)⟩
  inj := h.inj
  ge := h.ge
/-- A map is written. -/
theorem Env.store {X : Cx} {cn : Nat → Nat} {w w' : World} (hg : Gr X.m X.n) (h : Env X cn w) {i : Nat} (hi : i < X.es.length) {a b : Int} (he : El X.m X.n a b) {D : DataW Unit} (hD : w.ownsMap Try.prog 69 slR (X.mb i) (cn i) D) (hM : Memo X i D w)
    {v : Value} {d : DataW Unit} (hv : slR v = some (d, [])) (hp : PartV w v (X.sh i a b)) (hD' : w'.ownsMap Try.prog 69 slR (X.mb i) (cn i + 1) (D.put (KE a b) d)) (hgr : w.grownBy w' (some (X.mb i))) :
    Env X (fun j => if j = i then cn i + 1 else cn j) w' ∧ FrM X.B w w' := by
  have hF : FrM X.B w w' := FrM.map hD (h.ge i hi) hgr hD'
  refine ⟨⟨h.rl.frm hF, h.rk.frm hF, h.rf.frm hF, h.rg.frm hF, h.re.frm hF, h.rm.frm hF, fun j hj => ?_, h.inj, h.ge⟩, hF⟩
  by_cases e : j = i
  · subst e
    refine ⟨_, by simpa using hD', fun x y hxy hh => ?_⟩
    by_cases e2 : x = a ∧ y = b
    · obtain ⟨rfl, rfl⟩ := e2
      exact ⟨v, d, hp.frm hF, hv, fun z => Maps.atKey_put_same hD.isMap (K69.key (key_el hg he)) _ z⟩
    · have h3 : KE x y ≠ KE a b := fun e3 => e2 (KE_inj hg hxy he e3)
      rw [Maps.has_put_other h3] at hh
      obtain ⟨v2, d2, q1, q2, q3⟩ := hM x y hxy hh
      exact ⟨v2, d2, q1.frm hF, q2, fun z => by rw [Maps.atKey_put_other h3]; exact q3 z⟩
  · obtain ⟨D2, q1, q2⟩ := h.mp j hj
    refine ⟨D2, ?_, q2.frm hF⟩
    simp only [if_neg e]
    exact map_block q1 (hgr.block _ q1.lt (fun e2 => e (h.inj j i hj hi (by injection e2))))
end Go.Proofs.Ytokjdadgdfmffaa
