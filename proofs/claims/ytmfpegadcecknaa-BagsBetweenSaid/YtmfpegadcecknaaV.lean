/- Searching a way: plain facts. -/
import Derived.Test.YtmfpegadcecknaaU
namespace Go.Proofs.Ytmfpegadcecknaa
set_option maxHeartbeats 400000
theorem with_has (s v j : Nat) : sHas (sWith s v) j = (sHas s j || decide (v = j)) := with_bit s v j
theorem with_lt {s v : Nat} (h : s < 65536) (hv : v < 16) : sWith s v < 65536 := by
  unfold sWith
  exact Nat.or_lt_two_pow (n := 16) h (Nat.lt_of_lt_of_le (Nat.pow_lt_pow_right (by omega) hv) (by omega))
theorem with_same {s v : Nat} (h : sHas s v = true) : sWith s v = s := by
  apply Nat.eq_of_testBit_eq; intro i
  have := with_bit s v i
  rw [this]
  by_cases e : v = i
  · subst e; unfold sHas at h; simp [h]
  · simp [e]
theorem without_with {s v : Nat} (hs : s < 65536) (hv : v < 16) (h : sHas s v = false) : sWithout (sWith s v) v = s := by
  apply Nat.eq_of_testBit_eq; intro i
  rw [without_bit _ _ _ (with_lt hs hv) hv, with_bit]
  by_cases e : v = i
  · subst e; unfold sHas at h; simp [h]
  · simp [e]
theorem pc_with {s v : Nat} (hs : s < 65536) (hv : v < 16) (h : sHas s v = false) : pc 16 (sWith s v) = pc 16 s + 1 := by
  have := pc_without (with_lt hs hv) hv (s := sWith s v) (by rw [with_has]; simp)
  rw [without_with hs hv h] at this; exact this.symm
theorem getn_set {xs : List Nat} {i x j : Nat} (h : i < xs.length) : getn (xs.set i x) j = if i = j then x else getn xs j := by
  unfold getn
  rw [List.getD_eq_getElem?_getD, List.getD_eq_getElem?_getD, List.getElem?_set]
  split
  · rename_i e; subst e; first | rfl | (rw [if_pos h]; rfl)
  · rfl
/-- A piece can be moved from p to v. -/
def Eg (gs : List Nat) (H : Nat → Nat → Int) (p v : Nat) : Prop := p < 16 ∧ v < 16 ∧ sHas (near gs p) v = true ∧ H p v ≠ 0
/-- The way back to from, over before-numbers; each step a depth less. -/
structure Tree (gs : List Nat) (H : Nat → Nat → Int) (from_ R : Nat) (bs : List Nat) : Prop where
  lt : R < 65536
  blen : bs.length = 16
  blt : ∀ i, getn bs i < 16
  f16 : from_ < 16
  root : sHas R from_ = true
  dep : ∃ dep : Nat → Nat, dep from_ = 0 ∧ (∀ v, v < 16 → sHas R v = true → dep v < pc 16 R) ∧ ∀ v, v < 16 → sHas R v = true → v ≠ from_ → sHas R (getn bs v) = true ∧ dep v = dep (getn bs v) + 1 ∧ Eg gs H (getn bs v) v
def WayL (E : Nat → Nat → Prop) (from_ : Nat) : List Nat → Prop
  | [] => False
  | [v] => v = from_
  | v :: p :: t => E p v ∧ v ≠ from_ ∧ WayL E from_ (p :: t)
theorem wbF_head (bs : List Nat) (f k v : Nat) : ∃ t, wbF bs f k v = v :: t := by
  cases k with
  | zero => exact ⟨[], rfl⟩
  | succ k => unfold wbF; split <;> exact ⟨_, rfl⟩
theorem Tree.way {gs : List Nat} {H : Nat → Nat → Int} {f R : Nat} {bs : List Nat} (t : Tree gs H f R bs) {v : Nat} (hv : v < 16) (hR : sHas R v = true) (hf : v ≠ f) :
    ∃ K, K ≤ 16 ∧ wbOK bs f K v ∧ WayL (Eg gs H) f (wbF bs f K v) ∧ (wbF bs f K v).Nodup ∧ (wbF bs f K v).length ≤ 16 ∧ (∀ x ∈ wbF bs f K v, x < 16) := by
  obtain ⟨dep, d0, d1, d2⟩ := t.dep
  have key : ∀ k v, v < 16 → sHas R v = true → dep v = k → wbOK bs f k v ∧ WayL (Eg gs H) f (wbF bs f k v) ∧ (wbF bs f k v).Nodup ∧ (wbF bs f k v).length ≤ k + 1 ∧ (∀ x ∈ wbF bs f k v, x < 16 ∧ dep x ≤ k) := by
    intro k
    induction k with
    | zero =>
      intro v hv hR hd
      have e : v = f := by
        by_cases e : v = f
        · exact e
        · have := (d2 v hv hR e).2.1; omega
      subst e
      exact ⟨rfl, by simp [wbF, WayL], by simp [wbF], by simp [wbF], by simp [wbF, hv, hd]⟩
    | succ k ih =>
      intro v hv hR hd
      have e : v ≠ f := by intro e; subst e; omega
      obtain ⟨h1, h2, h3⟩ := d2 v hv hR e
      obtain ⟨i1, i2, i3, i4, i5⟩ := ih (getn bs v) (t.blt v) h1 (by omega)
      have hw : wbF bs f (k + 1) v = v :: wbF bs f k (getn bs v) := by rw [wbF, if_neg e]
      rw [hw]
      refine ⟨.inr i1, ?_, ?_, by simp; omega, ?_⟩
      · obtain ⟨tl, ht⟩ := wbF_head bs f k (getn bs v)
        rw [ht] at i2 ⊢
        exact ⟨h3, e, i2⟩
      · rw [List.nodup_cons]; exact ⟨fun hm => by have := (i5 v hm).2; omega, i3⟩
      · intro x hx
        rcases List.mem_cons.1 hx with rfl | hx
        · exact ⟨hv, by omega⟩
        · have := i5 x hx; exact ⟨this.1, by omega⟩
  have hk := key (dep v) v hv hR rfl
  have h1 := d1 v hv hR
  have h2 := pc_le 16 R
  exact ⟨dep v, by omega, hk.1, hk.2.1, hk.2.2.1, by have := hk.2.2.2.1; omega, fun x hx => (hk.2.2.2.2 x hx).1⟩
theorem Tree.start (gs : List Nat) (H : Nat → Nat → Int) {f : Nat} (hf : f < 16) (bs : List Nat) (hb : bs.length = 16) (hb2 : ∀ i, getn bs i < 16) : Tree gs H f (sWith 0 f) bs := by
  have hR : ∀ v, sHas (sWith 0 f) v = true → v = f := by intro v hv; rw [with_has] at hv; simp [sHas] at hv; exact hv.symm
  have h1 : sHas (sWith 0 f) f = true := by rw [with_has]; simp
  refine ⟨with_lt (by omega) hf, hb, hb2, hf, h1, fun _ => 0, rfl, fun v hv hr => ?_, fun v hv hr hn => absurd (hR v hr) hn⟩
  rw [pc_with (by omega) hf (by simp [sHas])]; exact Nat.succ_pos _
/-- One more vertex is reached. -/
theorem Tree.step {gs : List Nat} {H : Nat → Nat → Int} {f R : Nat} {bs : List Nat} (t : Tree gs H f R bs) {a v : Nat} (ha : sHas R a = true) (he : Eg gs H a v) (hv : sHas R v = false ∨ getn bs v = a ∧ v ≠ f) : Tree gs H f (sWith R v) (bs.set v a) := by
  obtain ⟨dep, d0, d1, d2⟩ := t.dep
  have hv16 := he.2.1
  by_cases hn : sHas R v = true
  · obtain ⟨e, hvf⟩ := hv.resolve_left (by simp [hn])
    have e1 : bs.set v a = bs := by
      apply List.ext_getElem?; intro i; rw [List.getElem?_set]
      split
      · rename_i e2; subst e2
        have : v < bs.length := by rw [t.blen]; omega
        rw [if_pos this, List.getElem?_eq_getElem this, ← e, getn_eq this]
      · rfl
    rw [with_same hn, e1]; exact t
  · have hn' : sHas R v = false := by simpa using hn
    have hp := pc_with t.lt hv16 hn'
    have hav : a ≠ v := by intro e; subst e; simp [hn'] at ha
    have hfv : f ≠ v := by intro e; subst e; have := t.root; simp [hn'] at this
    refine ⟨with_lt t.lt hv16, by simp [t.blen], fun i => ?_, t.f16, by rw [with_has, t.root]; rfl, fun x => if x = v then dep a + 1 else dep x, ?_, ?_, ?_⟩
    · rw [getn_set (by rw [t.blen]; exact hv16)]; split
      · exact he.1
      · exact t.blt i
    · show (if f = v then dep a + 1 else dep f) = 0
      rw [if_neg hfv]; exact d0
    · intro x hx hr
      rw [hp]
      simp only
      split
      · have := d1 a he.1 ha; omega
      · rename_i e; rw [with_has] at hr
        have : sHas R x = true := by simpa [Ne.symm e] using hr
        have := d1 x hx this; omega
    · intro x hx hr hxf
      rw [getn_set (by rw [t.blen]; exact hv16), with_has]
      by_cases e : x = v
      · subst e
        have e3 : (if x = x then a else getn bs x) = a := if_pos rfl
        rw [e3]
        refine ⟨by simp [ha], ?_, he⟩
        show (if x = x then dep a + 1 else dep x) = (if a = x then dep a + 1 else dep a) + 1
        rw [if_pos rfl, if_neg hav]
      · rw [with_has] at hr
        have hr' : sHas R x = true := by simpa [Ne.symm e] using hr
        obtain ⟨g1, g2, g3⟩ := d2 x hx hr' hxf
        have e2 : getn bs x ≠ v := by intro e2; rw [e2] at g1; simp [hn'] at g1
        simp only [if_neg e, if_neg (Ne.symm e), if_neg e2]
        exact ⟨by simp [g1], g2, g3⟩
/-- The search between two rounds. -/
structure BfsI (gs : List Nat) (H : Nat → Nat → Int) (L : Nat → Int) (f : Nat) (lim : Int) (R : Nat) (bs q : List Nat) : Prop where
  tree : Tree gs H f R bs
  qm : ∀ v ∈ q, v < 16 ∧ sHas R v = true
  closed : ∀ v, v < 16 → sHas R v = true → v ∉ q → ∀ u, u < 16 → sHas (near gs v) u = true → H v u ≠ 0 → sHas R u = true
  ge : ∀ v, v < 16 → sHas R v = true → v ≠ f → lim ≤ L v
  meas : 2 * (16 - pc 16 R) + q.length ≤ 32
/-- The search within a round at a. -/
structure Mid (gs : List Nat) (H : Nat → Nat → Int) (L : Nat → Int) (f : Nat) (lim : Int) (a R0 : Nat) (q0 us : List Nat) (R : Nat) (bs q : List Nat) : Prop where
  tree : Tree gs H f R bs
  a16 : a < 16
  hasA : sHas R a = true
  sub : ∀ v, sHas R0 v = true → sHas R v = true
  new : ∀ v, v < 16 → sHas R v = true → sHas R0 v = true ∨ (v ∈ us ∧ getn bs v = a ∧ v ≠ f)
  qeq : q = q0 ++ us.filter fun u => decide (H a u ≠ 0)
  rq : ∀ u ∈ us, H a u ≠ 0 → sHas R u = true
  ge : ∀ v, v < 16 → sHas R v = true → v ≠ f → lim ≤ L v
  pcq : us.Nodup → pc 16 R + q0.length = pc 16 R0 + q.length
  root0 : sHas R0 f = true
theorem BfsI.mid {gs : List Nat} {H : Nat → Nat → Int} {L : Nat → Int} {f : Nat} {lim : Int} {R a : Nat} {bs q : List Nat} (b : BfsI gs H L f lim R bs (a :: q)) : Mid gs H L f lim a R q [] R bs q :=
  ⟨b.tree, (b.qm a (List.mem_cons_self ..)).1, (b.qm a (List.mem_cons_self ..)).2, fun _ h => h, fun _ _ h => .inl h, by simp, by simp, b.ge, fun _ => rfl, b.tree.root⟩
theorem Mid.skip {gs : List Nat} {H : Nat → Nat → Int} {L : Nat → Int} {f : Nat} {lim : Int} {a R0 R : Nat} {q0 us bs q : List Nat} (m : Mid gs H L f lim a R0 q0 us R bs q) {x : Nat} (h : H a x = 0) : Mid gs H L f lim a R0 q0 (us ++ [x]) R bs q := by
  refine ⟨m.tree, m.a16, m.hasA, m.sub, fun v hv hr => (m.new v hv hr).imp id (fun h => ⟨List.mem_append_left _ h.1, h.2⟩), ?_, ?_, m.ge, fun hn => m.pcq (List.nodup_append.1 hn).1, m.root0⟩
  · rw [List.filter_append, m.qeq]; simp [h]
  · intro u hu hne
    rcases List.mem_append.1 hu with hu | hu
    · exact m.rq u hu hne
    · simp at hu; subst hu; exact absurd h hne
theorem Mid.tree_add {gs : List Nat} {H : Nat → Nat → Int} {L : Nat → Int} {f : Nat} {lim : Int} {a R0 R : Nat} {q0 us bs q : List Nat} (m : Mid gs H L f lim a R0 q0 us R bs q) {x : Nat} (hx : x < 16) (hn : sHas (near gs a) x = true)
    (h0 : sHas R0 x = false) (h : H a x ≠ 0) : Tree gs H f (sWith R x) (bs.set x a) := by
  refine m.tree.step m.hasA ⟨m.a16, hx, hn, h⟩ ?_
  cases hr : sHas R x
  · exact .inl rfl
  · rcases m.new x hx hr with h1 | h1
    · rw [h0] at h1; cases h1
    · exact .inr h1.2
theorem Mid.add {gs : List Nat} {H : Nat → Nat → Int} {L : Nat → Int} {f : Nat} {lim : Int} {a R0 R : Nat} {q0 us bs q : List Nat} (m : Mid gs H L f lim a R0 q0 us R bs q) {x : Nat} (hx : x < 16) (hn : sHas (near gs a) x = true)
    (h0 : sHas R0 x = false) (h : H a x ≠ 0) (hL : lim ≤ L x) : Mid gs H L f lim a R0 q0 (us ++ [x]) (sWith R x) (bs.set x a) (q ++ [x]) := by
  have hxf : x ≠ f := by intro e; subst e; have := m.root0; rw [h0] at this; cases this
  have hbl := m.tree.blen
  refine ⟨m.tree_add hx hn h0 h, m.a16, by rw [with_has, m.hasA]; rfl, fun v hv => by rw [with_has, m.sub v hv]; rfl, ?_, ?_, ?_, ?_, ?_, m.root0⟩
  · intro v hv hr
    rw [getn_set (by rw [hbl]; exact hx)]
    by_cases e : x = v
    · subst e; exact .inr ⟨by simp, by rw [if_pos rfl], hxf⟩
    · rw [with_has] at hr
      rw [if_neg e]
      exact (m.new v hv (by simpa [e] using hr)).imp id (fun h => ⟨List.mem_append_left _ h.1, h.2⟩)
  · rw [List.filter_append, m.qeq]; simp [h]
  · intro u hu hne
    rw [with_has]
    rcases List.mem_append.1 hu with hu | hu
    · rw [m.rq u hu hne]; rfl
    · simp at hu; subst hu; simp
  · intro v hv hr hf
    rw [with_has] at hr
    by_cases e : x = v
    · subst e; exact hL
    · exact m.ge v hv (by simpa [e] using hr) hf
  · intro hnd
    have hnd' := (List.nodup_append.1 hnd)
    have hno : sHas R x = false := by
      cases hr : sHas R x
      · rfl
      · rcases m.new x hx hr with h1 | h1
        · rw [h0] at h1; cases h1
        · exact absurd rfl (hnd'.2.2 x h1.1 x (by simp))
    rw [pc_with m.tree.lt hx hno]
    have := m.pcq hnd'.1
    simp; omega
theorem Mid.done {gs : List Nat} {H : Nat → Nat → Int} {L : Nat → Int} {f : Nat} {lim : Int} {a R0 R : Nat} {q0 bs0 bs q : List Nat} (b : BfsI gs H L f lim R0 bs0 (a :: q0)) (hg : Rows16 gs)
    (m : Mid gs H L f lim a R0 q0 (ms (sAndNot (near gs a) R0)) R bs q) : BfsI gs H L f lim R bs q ∧ 2 * (16 - pc 16 R) + q.length < 2 * (16 - pc 16 R0) + (q0.length + 1) := by
  have hin : ∀ u, u ∈ ms (sAndNot (near gs a) R0) ↔ u < 16 ∧ sHas (near gs a) u = true ∧ sHas R0 u = false := by
    intro u; rw [mem_ms]
    have : sHas (sAndNot (near gs a) R0) u = ((near gs a).testBit u && !R0.testBit u) := andNot_bit _ _ _ (hg.lt a) (Nat.lt_trans b.tree.lt (by omega))
    rw [this]; simp [sHas]
  have hnd : (ms (sAndNot (near gs a) R0)).Nodup := (List.nodup_range).filter _
  have hp := m.pcq hnd
  have hle := pc_le 16 R
  have hq : q0.length ≤ q.length := by rw [m.qeq]; simp
  have hb := b.meas
  simp only [List.length_cons] at hb
  refine ⟨⟨m.tree, ?_, ?_, m.ge, by omega⟩, by omega⟩
  · intro v hv
    rw [m.qeq] at hv
    rcases List.mem_append.1 hv with hv | hv
    · have := b.qm v (List.mem_cons_of_mem _ hv); exact ⟨this.1, m.sub v this.2⟩
    · have h1 := List.mem_filter.1 hv
      exact ⟨((hin v).1 h1.1).1, m.rq v h1.1 (by simpa using h1.2)⟩
  · intro v hv hr hnq u hu hnu hne
    by_cases e : v = a
    · subst e
      cases h0 : sHas R0 u
      · exact m.rq u ((hin u).2 ⟨hu, hnu, h0⟩) hne
      · exact m.sub u h0
    · have hv0 : sHas R0 v = true := by
        rcases m.new v hv hr with h1 | h1
        · exact h1
        · have h2 := (hin v).1 h1.1
          by_cases hne2 : H a v = 0
          · rcases m.tree.dep with ⟨dep, _, _, d2⟩
            have := (d2 v hv hr h1.2.2).2.2
            rw [h1.2.1] at this
            exact absurd hne2 this.2.2.2
          · exact absurd (by rw [m.qeq]; exact List.mem_append_right _ (List.mem_filter.2 ⟨h1.1, by simpa using hne2⟩)) hnq
      refine m.sub u (b.closed v hv hv0 ?_ u hu hnu hne)
      intro hm
      rcases List.mem_cons.1 hm with e2 | hm
      · exact e e2
      · exact hnq (by rw [m.qeq]; exact List.mem_append_left _ hm)
/-- What a search answers. -/
structure WayPost (gs : List Nat) (H : Nat → Nat → Int) (L : Nat → Int) (f : Nat) (lim : Int) (R : Nat) (ws : List Nat) : Prop where
  lt : R < 65536
  root : sHas R f = true
  stuck : ws = [] → (∀ v, v < 16 → sHas R v = true → ∀ u, u < 16 → sHas (near gs v) u = true → H v u ≠ 0 → sHas R u = true) ∧ (∀ v, v < 16 → sHas R v = true → v ≠ f → lim ≤ L v)
  way : ws ≠ [] → WayL (Eg gs H) f ws ∧ ws.Nodup ∧ ws.length ≤ 16 ∧ (∀ x ∈ ws, x < 16) ∧ L (getn ws 0) < lim ∧ getn ws 0 ≠ f
  reach : ∀ v, v < 16 → sHas R v = true → v ≠ f → ∃ u, sHas (near gs u) v = true
theorem Tree.reach {gs : List Nat} {H : Nat → Nat → Int} {f R : Nat} {bs : List Nat} (t : Tree gs H f R bs) : ∀ v, v < 16 → sHas R v = true → v ≠ f → ∃ u, sHas (near gs u) v = true := fun v hv hr hf => by
  obtain ⟨dep, _, _, d2⟩ := t.dep
  exact ⟨_, (d2 v hv hr hf).2.2.2.2.1⟩
theorem BfsI.post {gs : List Nat} {H : Nat → Nat → Int} {L : Nat → Int} {f : Nat} {lim : Int} {R : Nat} {bs : List Nat} (b : BfsI gs H L f lim R bs []) : WayPost gs H L f lim R [] :=
  ⟨b.tree.lt, b.tree.root, fun _ => ⟨fun v hv hr => b.closed v hv hr (by simp), b.ge⟩, fun h => absurd rfl h, b.tree.reach⟩
theorem BfsI.start (gs : List Nat) (H : Nat → Nat → Int) (L : Nat → Int) {f : Nat} (lim : Int) (hf : f < 16) {bs : List Nat} (hb : bs.length = 16) (hb2 : ∀ i, getn bs i < 16) : BfsI gs H L f lim (sWith 0 f) bs [f] := by
  have hR : ∀ v, sHas (sWith 0 f) v = true → v = f := by intro v hv; rw [with_has] at hv; simp [sHas] at hv; exact hv.symm
  refine ⟨Tree.start gs H hf bs hb hb2, ?_, ?_, ?_, ?_⟩
  · intro v hv; simp at hv; subst hv; exact ⟨hf, by rw [with_has]; simp⟩
  · intro v _ hr hnq; exact absurd (by simp [hR v hr]) hnq
  · intro v _ hr hne; exact absurd (hR v hr) hne
  · rw [pc_with (by omega) hf (by simp [sHas])]; simp; omega
theorem Tree.post {gs : List Nat} {H : Nat → Nat → Int} {L : Nat → Int} {f : Nat} {lim : Int} {R v : Nat} {bs : List Nat} (t : Tree gs H f R bs) (hv : v < 16) (hr : sHas R v = true) (hf : v ≠ f) (hL : L v < lim) :
    ∃ K, K ≤ 16 ∧ wbOK bs f K v ∧ WayPost gs H L f lim R (wbF bs f K v) := by
  obtain ⟨K, h1, h2, h3, h4, h5, h6⟩ := t.way hv hr hf
  obtain ⟨tl, ht⟩ := wbF_head bs f K v
  refine ⟨K, h1, h2, t.lt, t.root, fun he => (by rw [ht] at he; cases he), fun _ => ⟨h3, h4, h5, h6, ?_, ?_⟩, t.reach⟩
  · rw [ht]; exact hL
  · rw [ht]; exact hf
end Go.Proofs.Ytmfpegadcecknaa
