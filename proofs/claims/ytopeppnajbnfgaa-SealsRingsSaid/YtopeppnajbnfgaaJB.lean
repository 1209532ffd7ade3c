/- Necklaces: nearly fair cuts exist, and are rounded to fair ones, bead by bead (plain mathematics). -/
import Derived.Test.YtopeppnajbnfgaaJA
namespace Go.Proofs.Ytopeppnajbnfgaa.Neck
def su : Nat → (Nat → Int) → Int
  | 0, _ => 0
  | n + 1, f => su n f + f n
theorem su_congr {n : Nat} {f g : Nat → Int} (h : ∀ i, i < n → f i = g i) : su n f = su n g := by
  induction n with
  | zero => rfl
  | succ n ih => simp only [su]; rw [ih (fun i hi => h i (by omega)), h n (by omega)]
theorem su_neg (n : Nat) (f : Nat → Int) : su n (fun i => -f i) = -su n f := by
  induction n with
  | zero => rfl
  | succ n ih => simp only [su]; omega
theorem su_mul (n : Nat) (k : Int) (f : Nat → Int) : su n (fun i => k * f i) = k * su n f := by
  induction n with
  | zero => simp [su]
  | succ n ih => simp only [su]; rw [ih, Int.mul_add]
theorem su_add (n m : Nat) (f : Nat → Int) : su (n + m) f = su n f + su m (fun i => f (n + i)) := by
  induction m with
  | zero => simp [su]
  | succ m ih =>
    show su (n + m) f + f (n + m) = su n f + (su m (fun i => f (n + i)) + f (n + m))
    omega
theorem su_block (M : Nat) (g : Nat → Int) : ∀ n, su (n * M) g = su n fun b => su M fun i => g (M * b + i)
  | 0 => by rw [Nat.zero_mul]; rfl
  | n + 1 => by
    rw [Nat.succ_mul, su_add, su_block M g n]
    show _ = su n _ + su M _
    congr 1
    exact su_congr fun i _ => by rw [Nat.mul_comm]
theorem su_one {n x : Nat} {f g : Nat → Int} (h : ∀ i, i ≠ x → f i = g i) (hx : -2 ≤ f x - g x ∧ f x - g x ≤ 2) : -2 ≤ su n f - su n g ∧ su n f - su n g ≤ 2 := by
  induction n with
  | zero => simp [su]
  | succ n ih =>
    simp only [su]
    by_cases e : n = x
    · subst e
      have : su n f = su n g := su_congr fun i hi => h i (by omega)
      omega
    · have := h n e
      omega
theorem su_rng {n : Nat} {f : Nat → Int} (h : ∀ i, i < n → -1 ≤ f i ∧ f i ≤ 1) : -(n : Int) ≤ su n f ∧ su n f ≤ n := by
  induction n with
  | zero => simp [su]
  | succ n ih =>
    have := ih fun i hi => h i (by omega)
    have := h n (by omega)
    simp only [su]
    omega
theorem su_at {n b : Nat} {f g : Nat → Int} (hb : b < n) (h : ∀ i, i < n → i ≠ b → f i = g i) : su n f = su n g - g b + f b := by
  induction n with
  | zero => omega
  | succ n ih =>
    simp only [su]
    by_cases e : n = b
    · subst e
      have : su n f = su n g := su_congr fun i hi => h i (by omega) (by omega)
      omega
    · have := ih (by omega) fun i hi => h i (by omega)
      have := h n (by omega) e
      omega
/-- Which carrier gets what is at a place: 1 or -1. -/
def sgn (p : List Nat) (u : Nat) : Int := if (p.countP fun x => decide (x ≤ u)) % 2 = 0 then 1 else -1
theorem sgn_rng (p : List Nat) (u : Nat) : sgn p u = 1 ∨ sgn p u = -1 := by
  unfold sgn; split <;> simp
theorem sgn_perm {p p' : List Nat} (h : p.Perm p') (u : Nat) : sgn p u = sgn p' u := by unfold sgn; rw [h.countP_eq]
theorem sgn_cons (x : Nat) (p : List Nat) (u : Nat) : sgn (x :: p) u = if x ≤ u then -sgn p u else sgn p u := by
  unfold sgn
  rw [List.countP_cons]
  by_cases h : x ≤ u
  · rw [decide_eq_true h, if_pos rfl, if_pos h]
    split <;> split <;> first | rfl | omega
  · rw [decide_eq_false h, if_neg h, if_neg Bool.false_ne_true, Nat.add_zero]
/-- How much more of a color one carrier gets; each bead is five places long. -/
def ff (N : Nat) (col : Nat → Nat) (c : Nat) (p : List Nat) : Int := su (N * 5) fun u => if col (u / 5) = c then sgn p u else 0
theorem ff_congr {N : Nat} {col : Nat → Nat} {c : Nat} {p p' : List Nat} (h : ∀ u, u < N * 5 → sgn p u = sgn p' u) : ff N col c p = ff N col c p' :=
  su_congr fun u hu => by rw [h u hu]
theorem ff_neg {N : Nat} {col : Nat → Nat} {c : Nat} {p p' : List Nat} (h : ∀ u, sgn p u = -sgn p' u) : ff N col c p = -ff N col c p' := by
  unfold ff
  rw [← su_neg]
  refine su_congr fun u _ => ?_
  rw [h u]
  split <;> simp
/-- The label: the first color of which one carrier gets clearly more. -/
def lab (N : Nat) (col : Nat → Nat) : List Nat → List Nat → Int
  | [], _ => 0
  | c :: cs, p => if 4 < ff N col c p then (c + 1 : Nat) else if ff N col c p < -4 then -((c + 1 : Nat) : Int) else lab N col cs p
theorem lab_same {N : Nat} {col : Nat → Nat} {p p' : List Nat} (h : ∀ u, u < N * 5 → sgn p u = sgn p' u) : ∀ cs, lab N col cs p = lab N col cs p'
  | [] => rfl
  | c :: cs => by
    unfold lab
    rw [ff_congr h, lab_same h cs]
theorem lab_neg {N : Nat} {col : Nat → Nat} {p p' : List Nat} (h : ∀ u, sgn p u = -sgn p' u) : ∀ cs, lab N col cs p = -lab N col cs p'
  | [] => rfl
  | c :: cs => by
    unfold lab
    rw [ff_neg h, lab_neg h cs]
    by_cases h1 : 4 < ff N col c p'
    · rw [if_neg (by omega), if_pos (by omega), if_pos h1]
    · by_cases h2 : ff N col c p' < -4
      · rw [if_pos (by omega), if_neg h1, if_pos h2]; omega
      · rw [if_neg (by omega), if_neg (by omega), if_neg h1, if_neg h2]
theorem lab_Lab (N : Nat) (col : Nat → Nat) (cs : List Nat) : Lab (N * 5) (lab N col cs) where
  perm p p' h := lab_same (fun u _ => sgn_perm h u) cs
  last p := lab_same (fun u hu => by rw [sgn_cons, if_neg (by omega)]) cs
  zero p := lab_neg (fun u => by rw [sgn_cons, if_pos (Nat.zero_le _)]) cs
  twice x p := lab_same (fun u _ => by
    rw [sgn_cons, sgn_cons]
    split <;> simp) cs
theorem lab_cases {N : Nat} {col : Nat → Nat} {p : List Nat} : ∀ cs, (lab N col cs p = 0 ∧ ∀ c ∈ cs, -4 ≤ ff N col c p ∧ ff N col c p ≤ 4) ∨
    ∃ c ∈ cs, (4 < ff N col c p ∧ lab N col cs p = (c + 1 : Nat)) ∨ (ff N col c p < -4 ∧ lab N col cs p = -((c + 1 : Nat) : Int))
  | [] => .inl ⟨rfl, by simp⟩
  | c :: cs => by
    unfold lab
    by_cases h1 : 4 < ff N col c p
    · exact .inr ⟨c, by simp, .inl ⟨h1, by rw [if_pos h1]⟩⟩
    · by_cases h2 : ff N col c p < -4
      · exact .inr ⟨c, by simp, .inr ⟨h2, by rw [if_neg h1, if_pos h2]⟩⟩
      · rw [if_neg h1, if_neg h2]
        rcases lab_cases cs with ⟨h3, h4⟩ | ⟨d, hd, h3⟩
        · refine .inl ⟨h3, fun d hd => ?_⟩
          rcases List.mem_cons.1 hd with rfl | hd
          · omega
          · exact h4 d hd
        · exact .inr ⟨d, List.mem_cons_of_mem _ hd, h3⟩
/-- The numbers of one list are those of the other, or one greater. -/
def near : List Nat → List Nat → Prop
  | [], [] => True
  | a :: q, b :: p => (b = a ∨ b = a + 1) ∧ near q p
  | _, _ => False
theorem near_add : ∀ q : List Nat, near q (q.map (· + 1))
  | [] => trivial
  | _ :: q => ⟨.inr rfl, near_add q⟩
theorem pts_near : ∀ (q p : List Nat), p ∈ pts q → near q p
  | [], p, h => by
    have : p = [] := by simpa [pts] using h
    subst this; trivial
  | a :: q, p, h => by
    unfold pts at h
    rcases List.mem_append.1 h with h | h
    · obtain ⟨p', hp, rfl⟩ := List.mem_map.1 h
      exact ⟨.inl rfl, pts_near q p' hp⟩
    · have : p = (a + 1) :: q.map (· + 1) := by simpa using h
      subst this
      exact ⟨.inr rfl, near_add q⟩
theorem near_len : ∀ (q p : List Nat), near q p → p.length = q.length
  | [], [], _ => rfl
  | _ :: q, _ :: p, h => by simp [near_len q p h.2]
  | [], _ :: _, h => h.elim
  | _ :: _, [], h => h.elim
theorem near_le {L : Nat} : ∀ (q p : List Nat), near q p → (∀ x ∈ q, x < L) → ∀ x ∈ p, x ≤ L
  | [], [], _, _ => by simp
  | a :: q, b :: p, h, hq => fun x hx => by
    rcases List.mem_cons.1 hx with rfl | hx
    · have := hq a (by simp)
      rcases h.1 with e | e <;> omega
    · exact near_le q p h.2 (fun y hy => hq y (List.mem_cons_of_mem _ hy)) x hx
  | [], _ :: _, h, _ => h.elim
  | _ :: _, [], h, _ => h.elim
theorem ff_step (N : Nat) (col : Nat → Nat) (c x y : Nat) (w v : List Nat) (h : x = y ∨ x + 1 = y ∨ x = y + 1) : -2 ≤ ff N col c (w ++ x :: v) - ff N col c (w ++ y :: v) ∧ ff N col c (w ++ x :: v) - ff N col c (w ++ y :: v) ≤ 2 := by
  have hm : ∀ z, (w ++ z :: v).Perm (z :: (w ++ v)) := fun z => List.perm_middle
  unfold ff
  refine su_one (x := min x y) (fun u hu => ?_) ?_
  · have : sgn (w ++ x :: v) u = sgn (w ++ y :: v) u := by
      rw [sgn_perm (hm x), sgn_perm (hm y), sgn_cons, sgn_cons]
      by_cases h1 : x ≤ u
      · rw [if_pos h1, if_pos (by omega)]
      · rw [if_neg h1, if_neg (by omega)]
    rw [this]
  · have h1 := sgn_rng (w ++ x :: v) (min x y)
    have h2 := sgn_rng (w ++ y :: v) (min x y)
    split <;> omega
theorem ff_near (N : Nat) (col : Nat → Nat) (c : Nat) : ∀ (q p p' w : List Nat), near q p → near q p' →
    -(2 * (q.length : Int)) ≤ ff N col c (w ++ p) - ff N col c (w ++ p') ∧ ff N col c (w ++ p) - ff N col c (w ++ p') ≤ 2 * q.length
  | [], [], [], w, _, _ => by simp
  | a :: q, b :: p, b' :: p', w, h, h' => by
    have h1 := ff_step N col c b b' w p (by
      rcases h.1 with e | e <;> rcases h'.1 with e' | e' <;> omega)
    have h2 := ff_near N col c q p p' (w ++ [b']) h.2 h'.2
    rw [List.append_assoc, List.append_assoc] at h2
    simp only [List.singleton_append] at h2
    simp only [List.length_cons]
    omega
  | [], _ :: _, _, _, h, _ => h.elim
  | [], [], _ :: _, _, _, h => h.elim
  | _ :: _, [], _, _, h, _ => h.elim
  | _ :: _, _ :: _, [], _, _, h => h.elim
/-- There are cuts, as many as colors, that are nearly fair. -/
theorem nearly (N : Nat) (col : Nat → Nat) (cs : List Nat) (h4 : cs.length ≤ 4) : ∃ p : List Nat, p.length ≤ cs.length ∧ ∀ c ∈ cs, -4 ≤ ff N col c p ∧ ff N col c p ≤ 4 := by
  apply Classical.byContradiction
  intro hno
  have hz : ∀ p : List Nat, p.length ≤ cs.length → lab N col cs p ≠ 0 := fun p hp e => by
    rcases lab_cases (N := N) (col := col) (p := p) cs with h | ⟨c, _, h | h⟩
    · exact hno ⟨p, hp, h.2⟩
    · rw [h.2] at e; omega
    · rw [h.2] at e; omega
  refine tucker (t := cs.length) (lab_Lab N col cs) (cs.map (· + 1)) (by simp) (fun q hq hx => ⟨?_, ?_⟩) (fun q hq hx => ?_)
  · intro y hy
    obtain ⟨p, hp, rfl⟩ := List.mem_map.1 hy
    exact hz p (by rw [near_len q p (pts_near q p hp)]; exact hq)
  · intro y hy hy2
    obtain ⟨p, hp, rfl⟩ := List.mem_map.1 hy
    obtain ⟨p', hp', e⟩ := List.mem_map.1 hy2
    have hn := pts_near q p hp
    have hn' := pts_near q p' hp'
    rcases lab_cases (N := N) (col := col) (p := p) cs with h | ⟨c, _, h⟩
    · exact hno ⟨p, by rw [near_len q p hn]; exact hq, h.2⟩
    · rcases lab_cases (N := N) (col := col) (p := p') cs with h' | ⟨c', _, h'⟩
      · exact hno ⟨p', by rw [near_len q p' hn']; exact hq, h'.2⟩
      · have hd := ff_near N col c q p p' [] hn hn'
        simp only [List.nil_append] at hd
        rcases h with ⟨h1, h2⟩ | ⟨h1, h2⟩
        · rcases h' with ⟨h3, h5⟩ | ⟨h3, h5⟩
          · rw [h2, h5] at e; omega
          · rw [h2, h5] at e
            have : c' = c := by omega
            subst this; omega
        · rcases h' with ⟨h3, h5⟩ | ⟨h3, h5⟩
          · rw [h2, h5] at e
            have : c' = c := by omega
            subst this; omega
          · rw [h2, h5] at e; omega
  · intro y hy
    obtain ⟨p, hp, rfl⟩ := List.mem_map.1 hy
    rcases lab_cases (N := N) (col := col) (p := p) cs with h | ⟨c, hc, h | h⟩
    · exact absurd h.1 (hz p (by rw [near_len q p (pts_near q p hp)]; exact hq))
    · rw [h.2]; exact List.mem_map.2 ⟨c, hc, by omega⟩
    · rw [h.2]; exact List.mem_map.2 ⟨c, hc, by omega⟩
/-- All cuts inside a bead are moved to its end. -/
def out (b : Nat) (p : List Nat) : List Nat := p.map fun x => if 5 * b < x ∧ x < 5 * b + 5 then 5 * b + 5 else x
theorem out_len (b : Nat) (p : List Nat) : (out b p).length = p.length := by simp [out]
theorem sgn_out_far {b : Nat} (p : List Nat) {u : Nat} (h : u < 5 * b ∨ 5 * b + 5 ≤ u) : sgn (out b p) u = sgn p u := by
  induction p with
  | nil => rfl
  | cons x p ih =>
    show sgn ((if 5 * b < x ∧ x < 5 * b + 5 then 5 * b + 5 else x) :: out b p) u = _
    rw [sgn_cons, sgn_cons, ih]
    split
    · by_cases h1 : x ≤ u
      · rw [if_pos (by omega), if_pos h1]
      · rw [if_neg (by omega), if_neg h1]
    · rfl
theorem sgn_out_in {b : Nat} (p : List Nat) {u : Nat} (h : 5 * b ≤ u ∧ u < 5 * b + 5) : sgn (out b p) u = sgn p (5 * b) := by
  induction p with
  | nil => rfl
  | cons x p ih =>
    show sgn ((if 5 * b < x ∧ x < 5 * b + 5 then 5 * b + 5 else x) :: out b p) u = _
    rw [sgn_cons, sgn_cons, ih]
    split
    · rw [if_neg (by omega), if_neg (by omega)]
    · by_cases h1 : x ≤ 5 * b
      · rw [if_pos (by omega), if_pos h1]
      · rw [if_neg (by omega), if_neg h1]
/-- The same, one of them to its beginning. -/
theorem flip (b : Nat) (p : List Nat) (h : ∃ x ∈ p, 5 * b < x ∧ x < 5 * b + 5) : ∃ p' : List Nat, p'.length = p.length ∧ (∀ u, u < 5 * b ∨ 5 * b + 5 ≤ u → sgn p' u = sgn p u) ∧
    ∀ u, 5 * b ≤ u ∧ u < 5 * b + 5 → sgn p' u = -sgn p (5 * b) := by
  obtain ⟨x, hx, h1, h2⟩ := h
  obtain ⟨s, t, rfl⟩ := List.append_of_mem hx
  have hp : (s ++ x :: t).Perm (x :: (s ++ t)) := List.perm_middle
  refine ⟨5 * b :: out b (s ++ t), by simp [out_len]; omega, fun u hu => ?_, fun u hu => ?_⟩
  · rw [sgn_cons, sgn_out_far _ hu, sgn_perm hp, sgn_cons]
    by_cases h3 : x ≤ u
    · rw [if_pos (by omega), if_pos h3]
    · rw [if_neg (by omega), if_neg h3]
  · rw [sgn_cons, sgn_out_in _ hu, sgn_perm hp, sgn_cons, if_pos (by omega), if_neg (by omega)]
/-- What a carrier gets more of a bead. -/
def bead (p : List Nat) (b : Nat) : Int := su 5 fun i => sgn p (5 * b + i)
theorem ff_beads (N : Nat) (col : Nat → Nat) (c : Nat) (p : List Nat) : ff N col c p = su N fun b => if col b = c then bead p b else 0 := by
  unfold ff
  rw [su_block]
  refine su_congr fun b _ => ?_
  have e : ∀ i, i < 5 → (5 * b + i) / 5 = b := fun i hi => by omega
  rw [su_congr (g := fun i => if col b = c then sgn p (5 * b + i) else 0) (fun i hi => by rw [e i hi])]
  split
  · rfl
  · rfl
theorem bead_rng (p : List Nat) (b : Nat) : -5 ≤ bead p b ∧ bead p b ≤ 5 := by
  have := su_rng (n := 5) (f := fun i => sgn p (5 * b + i)) (fun i _ => by
    have := sgn_rng p (5 * b + i)
    show -1 ≤ sgn p (5 * b + i) ∧ sgn p (5 * b + i) ≤ 1
    omega)
  exact this
theorem bead_const {p : List Nat} {b : Nat} {s : Int} (h : ∀ u, 5 * b ≤ u ∧ u < 5 * b + 5 → sgn p u = s) : bead p b = 5 * s := by
  unfold bead
  rw [su_congr (g := fun _ => s) (fun i hi => h _ (by omega))]
  simp only [su]; omega
theorem bead_far {p p' : List Nat} {b b' : Nat} (h : ∀ u, u < 5 * b ∨ 5 * b + 5 ≤ u → sgn p' u = sgn p u) (hb : b' ≠ b) : bead p' b' = bead p b' :=
  su_congr fun i hi => h _ (by omega)
def Whole (p : List Nat) (b : Nat) : Prop := ∀ u, 5 * b ≤ u ∧ u < 5 * b + 5 → sgn p u = sgn p (5 * b)
/-- One bead after the other becomes whole. -/
theorem round (N : Nat) (col : Nat → Nat) (cs : List Nat) (p : List Nat) (h : ∀ c ∈ cs, -4 ≤ ff N col c p ∧ ff N col c p ≤ 4) :
    ∀ k, k ≤ N → ∃ p' : List Nat, p'.length = p.length ∧ (∀ b, b < k → Whole p' b) ∧ ∀ c ∈ cs, -5 ≤ ff N col c p' ∧ ff N col c p' ≤ 5
  | 0, _ => ⟨p, rfl, fun b hb => by omega, fun c hc => by have := h c hc; omega⟩
  | k + 1, hk => by
    obtain ⟨q, hq, hw, hf⟩ := round N col cs p h k (by omega)
    have hs := sgn_rng q (5 * k)
    -- any list that differs in this bead alone
    have key : ∀ (r : List Nat) (s : Int), r.length = q.length → (∀ u, u < 5 * k ∨ 5 * k + 5 ≤ u → sgn r u = sgn q u) → (∀ u, 5 * k ≤ u ∧ u < 5 * k + 5 → sgn r u = s) →
        (∀ b, b < k + 1 → Whole r b) ∧ ∀ c, ff N col c r = ff N col c q - (if col k = c then bead q k else 0) + (if col k = c then 5 * s else 0) := by
      intro r s hr h1 h2
      refine ⟨fun b hb u hu => ?_, fun c => ?_⟩
      · by_cases e : b = k
        · subst e
          rw [h2 u hu, h2 (5 * b) (by omega)]
        · rw [h1 u (by omega), h1 (5 * b) (by omega)]
          exact hw b (by omega) u hu
      · rw [ff_beads, ff_beads]
        rw [su_at (b := k) (f := fun b => if col b = c then bead r b else 0) (g := fun b => if col b = c then bead q b else 0) (by omega) (fun i _ hi => by
          show (if col i = c then bead r i else 0) = if col i = c then bead q i else 0
          rw [bead_far h1 hi]), bead_const h2]
    by_cases hi : ∃ x ∈ q, 5 * k < x ∧ x < 5 * k + 5
    · obtain ⟨r2, hr2, h3, h4⟩ := flip k q hi
      obtain ⟨w1, f1⟩ := key (out k q) (sgn q (5 * k)) (out_len k q) (fun u hu => sgn_out_far q hu) (fun u hu => sgn_out_in q hu)
      obtain ⟨w2, f2⟩ := key r2 (-sgn q (5 * k)) hr2 h3 h4
      have hb := bead_rng q k
      by_cases hg : -5 ≤ ff N col (col k) (out k q) ∧ ff N col (col k) (out k q) ≤ 5
      · refine ⟨out k q, by rw [out_len, hq], w1, fun c hc => ?_⟩
        by_cases e : col k = c
        · subst e; exact hg
        · rw [f1 c, if_neg e, if_neg e]
          have := hf c hc
          omega
      · refine ⟨r2, by rw [hr2, hq], w2, fun c hc => ?_⟩
        have := hf c hc
        by_cases e : col k = c
        · subst e
          rw [f1, if_pos rfl, if_pos rfl] at hg
          rw [f2, if_pos rfl, if_pos rfl]
          omega
        · rw [f2 c, if_neg e, if_neg e]
          omega
    · have hin : ∀ u, 5 * k ≤ u ∧ u < 5 * k + 5 → sgn q u = sgn q (5 * k) := fun u hu => by
        unfold sgn
        rw [List.countP_congr (q := fun x => decide (x ≤ 5 * k)) (fun x hx => by
          simp only [decide_eq_true_iff]
          constructor
          · intro h1
            apply Classical.byContradiction
            intro h2
            exact hi ⟨x, hx, by omega, by omega⟩
          · intro h1; omega)]
      refine ⟨q, hq, fun b hb => ?_, hf⟩
      by_cases e : b = k
      · subst e; exact hin
      · exact hw b (by omega)
/-- Signs of beads that divide all colors fairly, with no more changes than colors. -/
theorem split (N : Nat) (col : Nat → Nat) (cs : List Nat) (h4 : cs.length ≤ 4) (he : ∀ c ∈ cs, su N (fun b => if col b = c then 1 else 0) % 2 = 0) :
    ∃ σ : Nat → Int, (∀ b, σ b = 1 ∨ σ b = -1) ∧ (∀ c ∈ cs, su N (fun b => if col b = c then σ b else 0) = 0) ∧
      ((List.range N).filter fun b => decide (1 ≤ b ∧ σ b ≠ σ (b - 1))).length ≤ cs.length := by
  obtain ⟨p, hp, hf⟩ := nearly N col cs h4
  obtain ⟨q, hq, hw, hg⟩ := round N col cs p hf N (Nat.le_refl _)
  refine ⟨fun b => sgn q (5 * b), fun b => sgn_rng q _, fun c hc => ?_, ?_⟩
  · have h1 := hg c hc
    have h2 := he c hc
    have e : ff N col c q = 5 * su N (fun b => if col b = c then sgn q (5 * b) else 0) := by
      rw [ff_beads, ← su_mul]
      refine su_congr fun b hb => ?_
      split
      · exact bead_const (hw b hb)
      · rfl
    have par : ∀ n, (su n (fun b => if col b = c then sgn q (5 * b) else 0) - su n (fun b => if col b = c then 1 else 0)) % 2 = 0 := by
      intro n
      induction n with
      | zero => rfl
      | succ n ih =>
        simp only [su]
        have := sgn_rng q (5 * n)
        split <;> omega
    have := par N
    show su N (fun b => if col b = c then sgn q (5 * b) else 0) = 0
    omega
  · show ((List.range N).filter fun b => decide (1 ≤ b ∧ sgn q (5 * b) ≠ sgn q (5 * (b - 1)))).length ≤ cs.length
    have hl := len_le (((List.range N).filter fun b => decide (1 ≤ b ∧ sgn q (5 * b) ≠ sgn q (5 * (b - 1)))).map fun b => 5 * b) q ?_ ?_
    · rw [List.length_map] at hl
      omega
    · refine List.Pairwise.map _ (fun a b h => ?_) (List.nodup_range.sublist List.filter_sublist)
      omega
    · intro x hx
      obtain ⟨b, hb, rfl⟩ := List.mem_map.1 hx
      obtain ⟨hb1, hb2⟩ := List.mem_filter.1 hb
      have hb1 := List.mem_range.1 hb1
      obtain ⟨h1, h2⟩ := of_decide_eq_true hb2
      have h3 := hw (b - 1) (by omega) (5 * b - 1) (by omega)
      rw [← h3] at h2
      apply Classical.byContradiction
      intro hno
      refine h2 ?_
      unfold sgn
      rw [List.countP_congr (q := fun x => decide (x ≤ 5 * b - 1)) (fun x hx => by
        simp only [decide_eq_true_iff]
        have : x ≠ 5 * b := fun e => hno (by rw [← e]; exact hx)
        omega)]
end Go.Proofs.Ytopeppnajbnfgaa.Neck
