/- The reference's search. -/
import Derived.Test.YtignbpipdfjkeaaDoorBA
import Derived.Test.YtignbpipdfjkeaaDoorBB
import Derived.Deep.RegionHeldLaw
namespace Go.Proofs.YtignbpipdfjkeaaDoor
open Go.RowKit
set_option maxHeartbeats 2000000
set_option maxRecDepth 100000
theorem info4 : (Tryd.prog.info? 4).map (fun i => (i.zero, i.size, i.bytes)) = some (some (.bool false), 1, 1) := by kernel_rfl
theorem info9 : (Tryd.prog.info? 9).map (fun i => (i.zero, i.size, i.bytes)) = some (some (.string ⟨#[]⟩), 1, 16) := by kernel_rfl
/-- Which sets were seen. -/
def sbv (F : Nat → Option (Nat × Nat)) (N : Nat) : List Value := (List.range N).map fun t => .bool (F t).isSome
theorem sbv_at {F : Nat → Option (Nat × Nat)} {N t : Nat} (h : t < N) : (sbv F N)[t]? = some (.bool (F t).isSome) := by
  unfold sbv; rw [List.getElem?_map, List.getElem?_range h]; rfl
theorem sbv_set {F : Nat → Option (Nat × Nat)} {N t : Nat} (p : Nat × Nat) : (sbv F N).set t (.bool true) = sbv (putF F t p) N := by
  unfold sbv
  apply List.ext_getElem (by simp)
  intro i h1 h2
  rw [List.getElem_set, List.getElem_map, List.getElem_map, List.getElem_range]
  unfold putF
  by_cases e : t = i
  · subst e; simp
  · rw [if_neg e, if_neg (fun h => e h.symm)]
theorem make_bools (N : Nat) (hn : N ≤ 100000) (W : World) : (Instr.makeSlice 104 (.int .i64 N) (.int .i64 N)).run Tryd.prog W = .ok (.slice (some ⟨W.heap.size, 0, none⟩) N N) (W.alloc (.cells (sbv (fun _ => none) N).toArray 4)) := by
  obtain ⟨j0, ji, jz0, jz1, jz2⟩ := info_parts info4
  have h := run_make (P := Tryd.prog) W 104 4 j0 (.bool false) Tryd.underlying104 ji jz0 .i64 .i64 N N (by omega) (by omega) (by rw [jz2]; omega) (by omega)
  rw [jz1, Int.toNat_natCast] at h
  have e : madeCells (Value.bool false).cells (N * 1) = (sbv (fun _ => none) N).toArray := by
    apply Array.ext'
    unfold madeCells
    have hc : (Value.bool false).cells = #[.bool false] := rfl
    rw [hc]
    apply List.ext_getElem?
    intro i
    by_cases hi : i < N
    · rw [sbv_at hi]
      simp [Nat.mod_one, hi]
    · have h5 : (sbv (fun _ => none) N)[i]? = none := List.getElem?_eq_none (by simp [sbv]; omega)
      rw [h5]
      simp [hi]
  rw [h, e]
/-- Sets as numbers. -/
def mi (R : Met) : List Int := R.map fun e => (e.1 : Int)
/-- Words as strings. -/
def mw (R : Met) : List Value := R.map fun e => .string (wS e.2)
theorem mi_snoc (R : Met) (t : Nat) (x : List Nat) : mi (R ++ [(t, x)]) = mi R ++ [(t : Int)] := by simp [mi]
theorem mw_snoc (R : Met) (t : Nat) (x : List Nat) : mw (R ++ [(t, x)]) = mw R ++ [.string (wS x)] := by simp [mw]
theorem mi_len (R : Met) : (mi R).length = R.length := by simp [mi]
theorem mw_len (R : Met) : (mw R).length = R.length := by simp [mw]
theorem geti_mi {R : Met} {i : Nat} (h : i < R.length) : geti (mi R) i = ((elS R i).1 : Int) := by
  rw [geti_eq (by rw [mi_len]; exact h)]
  unfold mi elS
  rw [List.getElem_map, List.getD_eq_getElem?_getD, List.getElem?_eq_getElem h]; rfl
theorem mw_at {R : Met} {i : Nat} (h : i < R.length) : (mw R)[i]? = some (.string (wS (elS R i).2)) := by
  unfold mw elS; rw [List.getElem?_map, List.getD_eq_getElem?_getD, List.getElem?_eq_getElem h]; rfl
theorem wS_snoc (x : List Nat) (c : Nat) (hc : c < 4) : wS (x ++ [c]) = wS x ++ ⟨#[UInt8.ofNat (97 + c)]⟩ := by
  unfold wS wI strOfNums
  apply ByteArray.ext
  rw [ByteArray.data_append]
  have h : (97 + (c : Int)).toNat = 97 + c := by omega
  simp [h]
/-- Words that the call keeps, read. -/
theorem own_words {w : World} {b n : Nat} {v : Value} {R : Met} (h : w.ownsRow b 9 1 v n (mw R)) (hn : 0 < n) : ∃ g c, v = .slice (some ⟨g, 0, none⟩) R.length c ∧ b ≤ g ∧ g < w.heap.size ∧ ∀ i, i < R.length → w.cell? ⟨g, i, none⟩ = some (.string (wS (elS R i).2)) := by
  have hl : R.length = n := by have := h.1; rw [mw_len] at this; omega
  rcases h.2 with ⟨rfl, h0⟩ | ⟨g, cap, cur, rfl, hb, hg, hc, _, hs, ht⟩
  · omega
  · refine ⟨g, cap, by rw [hl], hb, (Array.getElem?_eq_some_iff.1 hg).1, fun i hi => ?_⟩
    rw [cell_of_row w g _ _ _ _ hg]
    have e1 : cur.toList[i]? = (mw R)[i]? := by rw [← ht, List.getElem?_take, if_pos (by omega)]
    rw [← Array.getElem?_toList, e1, mw_at hi]
theorem grown_setCell (w : World) (g i : Nat) (v : Value) : w.grownBy (w.setCell ⟨g, i, none⟩ v) (some g) :=
  ⟨rfl, rfl, rfl, by simp [World.setCell], fun k _ hk => by
    unfold World.setCell
    simp only [Array.getElem?_modify]
    rw [if_neg (fun e => hk (by rw [e]))]⟩
theorem own_apart {w : World} {B C z y n m : Nat} {t e : TypeId} {v u : Value} {xs ys : List Value} (h : w.ownsRow B t z v n xs) (k : w.ownsRow C e y u m ys) (hte : t ≠ e) : v.ownBlock ≠ u.ownBlock ∨ v.ownBlock = none := by
  cases hb : v.ownBlock with
  | none => exact .inr rfl
  | some g =>
    refine .inl (fun e' => ?_)
    obtain ⟨_, _, c1, h3⟩ := own_ge h hb
    obtain ⟨_, _, c2, h4⟩ := own_ge k e'.symm
    rw [h3] at h4
    injection h4 with h4
    injection h4 with _ h4
    exact hte h4
theorem own_one (w : World) (b : Nat) (t : TypeId) (v : Value) (hb : b ≤ w.heap.size) : (w.alloc (.cells #[v] t)).ownsRow b t 1 (.slice (some ⟨w.heap.size, 0, none⟩) 1 1) 1 [v] :=
  ⟨rfl, .inr ⟨w.heap.size, 1, _, rfl, hb, heap_alloc_new _ _, by omega, by unfold maxLen; omega, rfl, rfl⟩⟩
theorem wS_len (x : List Nat) : (wS x).size = x.length := by unfold wS; rw [strOfNums_size, wI_len]
theorem wS_one {c g : Nat} (_hc : c < 4) {V : World} (hr : Row V g 5 [.int .u8 (97 + (c : Int))]) : (convert 101 9 (.slice (some ⟨g, 0, none⟩) 1 1)).run Tryd.prog V = .ok (.string ⟨#[UInt8.ofNat (97 + c)]⟩) V := by
  have h := run_convert_bytes_arg (P := Tryd.prog) V 101 5 Tryd.underlying101 Tryd.underlying5 g 0 1 1 [97 + (c : Int)] rfl (fun i hi => by
    obtain rfl : i = 0 := by omega
    exact hr.cell 0) 9 Tryd.underlying9
  rw [h]
  have e : (97 + (c : Int)).toNat = 97 + c := by omega
  simp [strOfNums, e]
theorem step_append_own_keep {P : Program} {ops : Array Oper} {o : Oper} {a : Act} {w : World} {K : Act → World → Prop} {Q : Exit → Act → World → Prop} {E : Prop}
    (hg : o.guard = none) (s x : Operand) (t : TypeId) (hop : o.op = Op.call { callee := Callee.builtin Builtin.append, args := #[s, x], argTypes := #[t, t] })
    (base : Nat) (e : TypeId) (i : TypeInfo) (z : Value) (size bytes : Nat) (ht : P.underlying t = some (.slice e)) (hi : P.info? e = some i) (hz : i.zero = some z)
    (hsize : i.size = size) (hby : i.bytes = bytes) (hzs : z.cells.size = size) (hsz : 0 < size)
    (g cap n : Nat) (xs : List Value) (hs : a.eval s = .slice (some ⟨g, 0, none⟩) n cap) (hown : w.ownsRow base e size (.slice (some ⟨g, 0, none⟩) n cap) n xs)
    (ad : Addr) (m c : Nat) (news : List Value) (hx : a.eval x = .slice (some ad) m c) (hl : news.length = m * size) (hnews : ∀ j u, news[j]? = some u → w.cell? (ad.add j) = some u) (h1 : ∀ u ∈ news, u.oneCell' = true)
    (h63 : n + m ≤ maxLen) (hbytes : (n + m) * bytes ≤ 140737488355328) (hbase : base ≤ w.heap.size)
    (hK : ∀ v' w', w'.ownsRow base e size v' (n + m) (xs ++ news) → w.grownBy w' (some g) → (∀ j u, xs[j]? = some u → w'.cell? ⟨g, j, none⟩ = some u) → K (a.put o.dst v') w') :
    if Region.wanted o (yielded ops a.tmps) = true then Oper.wp P o a w K Q else E := by
  have hw : Region.wanted o (yielded ops a.tmps) = true := by simp [Region.wanted, hg]
  rw [if_pos hw]
  obtain ⟨v', w', hr, h2, h3, h4, h5⟩ := run_append_own_at (P := P) w base t o.type e i z size bytes ht hi hz hsize hby hzs hsz _ n xs hown ad m c news hl hnews h1 h63 hbytes hbase
  have hkeep : ∀ j u, xs[j]? = some u → w'.cell? ⟨g, j, none⟩ = some u := by
    subst hsize hby
    have hold := hown.cells (g := g) rfl
    rcases hown.2 with ⟨h, _⟩ | ⟨g', cap', cur, h, hbg, hgg, hnc, hcm, hcs, htake⟩
    · cases h
    · injection h with h h' h''
      injection h with h
      injection h with h
      subst h h''
      by_cases hroom : n + m ≤ cap
      · have hfit : n * i.size + news.length ≤ cur.size := by rw [hl, hcs, ← Nat.add_mul]; exact Nat.mul_le_mul_right _ hroom
        have hr2 := run_append_room (P := P) w t o.type e i ht hi g n cap cur hgg ad m c news hl hnews h1 hroom hfit
        rw [hr] at hr2
        injection hr2 with e1 e2
        subst e1
        intro j u hj
        have := h2.cells (g := g) rfl j u (by rw [List.getElem?_append_left (List.getElem?_eq_some_iff.1 hj).1]; exact hj)
        rwa [WideShapes.add_plain, Nat.zero_add] at this
      · have hr2 := run_append_grow (P := P) w t o.type e i z ht hi hz ⟨g, 0, none⟩ n cap xs hown.1 hold ad m c news hl hnews (by omega) (by simp only [maxLen] at h63; omega) (growslice_fits (by omega) hbytes)
        rw [hr] at hr2
        injection hr2 with e1 e2
        intro j u hj
        have := hold j u hj
        rw [WideShapes.add_plain, Nat.zero_add] at this
        rw [e2, World.cell?_alloc_lt _ _ ⟨g, j, none⟩ (by show g < w.drew.heap.size; exact (Array.getElem?_eq_some_iff.1 hgg).1)]
        exact this
  unfold Oper.wp execOp
  simp only [hop, resolve, invoke, builtin, Sem.run_bind, Sem.run_pure, Result.andThen_ok, List.map_toArray, List.map_cons, List.map_nil, hs, hx, hr]
  exact hK v' w' h2 h3 hkeep
/-- What the reference's search returns. -/
def ReachedR (w : World) (R : Met) (e : Ending) (w' : World) : Prop := ∃ v u, e = .returned (.tuple #[v, u]) ∧ w'.ownsRow w.heap.size 3 1 v R.length (iv (mi R)) ∧ w'.ownsRow w.heap.size 9 1 u R.length (mw R) ∧ Below w.heap.size w w'
theorem Reached_any (A : Option Addr) (c : Nat) (L : List (List Int)) (s : Nat) (w : World) (h : IsMI L) (hs : IsS (nS L) s) (h0 : s ≠ 0) (ha : RowsAt w A L) :
    Calls Tryd.prog 57 #[.slice A L.length c, .int .i64 s] w (ReachedR w (reach (tabN L) L.length s)) := by
  obtain ⟨j0, ji, jz0, jz1, jz2⟩ := info_parts info3
  obtain ⟨k0, ki, kz0, kz1, kz2⟩ := info_parts info9
  have hs512 := set512 h.n9 hs
  have hM := h.isM
  have hk1 := h.k1
  have hk4 := h.k4
  have hn9 := h.n9
  obtain ⟨bA, oA, hA, hbA, hcA⟩ := ha h.k1
  obtain ⟨B0, c0, d0, -⟩ := hcA 0 h.k1
  rw [show (getl L 0).length = nS L from rfl, Nat.add_zero] at d0
  subst hA
  have HPR := Lib.hid (fun (t b : Nat) (V : World) (ht5 : IsS (nS L) t) (hb : b < L.length) (hV : Below w.heap.size w V) => Press_any (some ⟨bA, oA, none⟩) c L t b V h ht5 hb (ha.below hV))
  have hN9 : 2 ^ nS L ≤ 2 ^ 9 := Nat.pow_le_pow_right (by decide) h.n9
  have HM := Lib.hid hM
  have HS := Lib.hid hs
  have HSI0 := Lib.hid (si_start (T := tabN L) (k := L.length) (n := nS L) (s := s) (g := fun _ => false) rfl)
  obtain ⟨Z, hZ⟩ : ∃ Z, reach (tabN L) L.length s = Z := ⟨_, rfl⟩
  have HZ : Hid (reach (tabN L) L.length s = Z) := Lib.hid hZ
  have HRE0 : Hid (reach (tabN L) L.length s = bfs (tabN L) L.length 512 0 [(s, [])]) := Lib.hid rfl
  rw [hZ]
  have hsN : s < 2 ^ nS L := hs
  clear hZ hM hs ha hcA h
  generalize tabN L = T at *
  generalize nS L = n at *
  have HIS : Hid (∀ t, IsS n t → t < 2 ^ n) := Lib.hid (fun t h => h)
  obtain ⟨N, hN⟩ : ∃ N, 2 ^ n = N := ⟨_, rfl⟩
  rw [hN] at hN9 hsN HIS
  have hN9 : N ≤ 512 := hN9
  have hmk := make_bools N (by omega)
  have HSH : Hid (wrap64 ((2 : Int) ^ n) = (N : Int)) := Lib.hid (by
    rw [pow_cast, hN]
    clear hN
    exact IntWalk.wrap64_in _ ⟨by omega, by omega⟩)
  clear hN
  have q0 : Row (w.alloc (.cells (sbv (fun _ => none) N).toArray 4)) w.heap.size 4 (sbv (fun _ => none) N) := row_new rfl
  have c1 : (w.alloc (.cells (sbv (fun _ => none) N).toArray 4)).cell? ⟨w.heap.size, s, none⟩ = some (.bool false) := by rw [q0.cell, sbv_at hsN]; rfl
  have f1 := q0.free s
  have q1 : Row (w.alloc (.cells ((sbv (fun _ => none) N).set s (.bool true)).toArray 4)) w.heap.size 4 (sbv (putF (fun _ => none) s (0, 0)) N) := by rw [← sbv_set (0, 0)]; exact row_new rfl
  have b1 : Below w.heap.size w (w.alloc (.cells ((sbv (fun _ => none) N).set s (.bool true)).toArray 4)) := (Below.refl _ w).alloc (Nat.le_refl _) _
  have hz1 : (w.alloc (.cells ((sbv (fun _ => none) N).set s (.bool true)).toArray 4)).heap.size = w.heap.size + 1 := by simp
  go_enter Tryd.func57, Tryd.ntmps57
  go_wp2_with ((with_reducible refine (?_ : wpList _ _ _ (Oper.mk (some 17) _ _ _ _ _ :: _) _ _)); rw [HSH.out])
  clear c1 f1 q0 hmk HSH d0
  generalize w.alloc (.cells ((sbv (fun _ => none) N).set s (.bool true)).toArray 4) = W1 at *
  have hb1 := b1.size
  have q2 := (q1.alloc (.cells #[.int .i64 (s : Int)] 3)).alloc (.cells #[.string ⟨#[]⟩] 9)
  have b2 : Below w.heap.size w ((W1.alloc (.cells #[.int .i64 (s : Int)] 3)).alloc (.cells #[.string ⟨#[]⟩] 9)) := (b1.alloc hb1 _).alloc (by simp; omega) _
  have o2 : ((W1.alloc (.cells #[.int .i64 (s : Int)] 3)).alloc (.cells #[.string ⟨#[]⟩] 9)).ownsRow w.heap.size 3 1 (.slice (some ⟨w.heap.size + 1, 0, none⟩) 1 1) 1 (iv (mi [(s, [])])) := by
    have := (own_one W1 w.heap.size 3 (.int .i64 (s : Int)) hb1).alloc (.cells #[.string ⟨#[]⟩] 9)
    rw [hz1] at this
    exact this
  have u2 : ((W1.alloc (.cells #[.int .i64 (s : Int)] 3)).alloc (.cells #[.string ⟨#[]⟩] 9)).ownsRow w.heap.size 9 1 (.slice (some ⟨w.heap.size + 1 + 1, 0, none⟩) 1 1) 1 (mw [(s, [])]) := by
    have := own_one (W1.alloc (.cells #[.int .i64 (s : Int)] 3)) w.heap.size 9 (.string ⟨#[]⟩) (by simp; omega)
    rw [World.size_alloc, hz1] at this
    exact this
  clear q1 b1 hz1 hb1
  generalize World.alloc _ (Obj.cells #[.string ⟨#[]⟩] 9) = W2 at *
  go_loopw [7, 8, 9] (fun v u q wr => ∃ (i f : Nat) (R : Met) (F : Nat → Option (Nat × Nat)), q = .int .i64 i ∧ i + f = 512 ∧ i ≤ R.length ∧ wr.ownsRow w.heap.size 3 1 v R.length (iv (mi R)) ∧ wr.ownsRow w.heap.size 9 1 u R.length (mw R) ∧ Row wr w.heap.size 4 (sbv F N) ∧ Below w.heap.size w wr ∧ Hid (SI T L.length n s (fun _ => false) F R i 0 ∧ reach T L.length s = bfs T L.length f i R)) (fun _ _ q _ => 512 - (intOf q).toNat)
  case atStart => exact ⟨0, 512, [(s, [])], _, rfl, rfl, by simp, o2, u2, q2, b2, Lib.hid ⟨HSI0.out, HRE0.out⟩⟩
  case round =>
    clear b2 q2 o2 u2 HSI0 HRE0 W2
    obtain ⟨i, f, R, F, rfl, hif, hiR, o2, u2, q2, b2, HI⟩ := hrel
    have hRl := HI.out.1.len HM.out HS.out
    obtain ⟨A7, c7, rfl, -, hc7, i7⟩ := own_intsI o2
    rw [mi_len]
    by_cases hlt : i < R.length
    · have g1 : decide (i < R.length) = true := decide_eq_true hlt
      obtain ⟨f, rfl⟩ : ∃ f', f = f' + 1 := ⟨f - 1, by omega⟩
      have HI2 : Hid (SI T L.length n s (fun _ => false) F R i 0 ∧ reach T L.length s = bfs T L.length f (i + 1) (rowS T i L.length 0 R)) := Lib.hid ⟨HI.out.1, by rw [HI.out.2, bfs_go hlt]⟩
      rw [mi_len] at o2
      clear HI hRl i7 hc7
      go_wp2
      go_loopw [7, 8, 10] (fun v u q wr => ∃ (b : Nat) (R : Met) (F : Nat → Option (Nat × Nat)), q = .int .i64 b ∧ b ≤ L.length ∧ i < R.length ∧ wr.ownsRow w.heap.size 3 1 v R.length (iv (mi R)) ∧ wr.ownsRow w.heap.size 9 1 u R.length (mw R) ∧ Row wr w.heap.size 4 (sbv F N) ∧ Below w.heap.size w wr ∧ Hid (SI T L.length n s (fun _ => false) F R i b ∧ reach T L.length s = bfs T L.length f (i + 1) (rowS T i (L.length - b) b R))) (fun _ _ q _ => L.length - (intOf q).toNat)
      case atStart => exact ⟨0, R, F, rfl, by omega, hlt, o2, u2, q2, b2, HI2⟩
      case round =>
        clear o2 u2 q2 b2 HI2 hlt g1 hiR
        obtain ⟨b, R, F, rfl, hbk, hlt, o2, u2, q2, b2, HI⟩ := hrel
        have hRl := HI.out.1.len HM.out HS.out
        by_cases hc : b < L.length
        · have g1 : decide (b < L.length) = true := decide_eq_true hc
          obtain ⟨A7, c7, rfl, -, hc7, i7⟩ := own_intsI o2
          rw [mi_len] at o2 ⊢
          obtain ⟨g7, o7, rfl, hg7, hx7⟩ := i7 (by rw [mi_len]; omega)
          have ci := hx7 i (by rw [mi_len]; exact hlt)
          rw [geti_mi hlt] at ci
          have hel := HI.out.1.el_set HM.out HS.out h0 hlt
          have ht := prs_set HM.out hel.1 hc
          have htN := HIS.out _ ht
          have HKN := Lib.hid (fun hF => HI.out.1.known hlt hc hF)
          have HNW := Lib.hid (fun hF => HI.out.1.new HM.out HS.out h0 hlt hc hF rfl)
          have HRM := Lib.hid (fun hF => HI.out.1.room HM.out HS.out h0 hlt hc hF)
          have HRR : Hid (reach T L.length s = bfs T L.length f (i + 1) (rowS T i (L.length - b) b R)) := Lib.hid HI.out.2
          have HAD : Hid (rowS T i (L.length - b) b R = rowS T i (L.length - (b + 1)) (b + 1) (addS T R i b)) := Lib.hid (by rw [show L.length - b = (L.length - (b + 1)) + 1 by omega]; rfl)
          have HPC := Lib.hid (HPR.out (elS R i).1 b wr hel.1 hc b2)
          obtain ⟨y, hy⟩ : ∃ y, (elS R i).2 = y := ⟨_, rfl⟩
          obtain ⟨p, hp⟩ : ∃ p, (elS R i).1 = p := ⟨_, rfl⟩
          rw [hp] at ci htN HKN HNW HRM HPC
          rw [hy] at HNW HRM
          obtain ⟨t, htt⟩ : ∃ t, prs T p b = t := ⟨_, rfl⟩
          rw [htt] at htN HKN HNW HRM HPC
          have HY := Lib.hid hy
          clear hel hp ht htt hy HI i7 hx7
          have HO := Lib.hid o2
          have HU := Lib.hid u2
          go_wp2_with (go_at_call 65; fail)
          refine HPC.out.mono ?_
          rintro e w3 ⟨rfl, n3, rfl⟩
          have q3 := q2.drewN n3
          have b3 := b2.trans (below_drewN n3)
          have o3 := HO.out.kept' (below_drewN n3)
          have u3 := HU.out.kept' (below_drewN n3)
          generalize World.drewN _ n3 = W3 at *
          have c3 : W3.cell? ⟨w.heap.size, t, none⟩ = some (.bool (F t).isSome) := by rw [q3.cell, sbv_at htN]
          have f3 := q3.free t
          cases hF : (F t).isSome
          · rw [hF] at c3
            obtain ⟨hAdd, hSI⟩ := HNW.out hF
            obtain ⟨hy5, hR5⟩ := HRM.out hF
            have HI3 : Hid (SI T L.length n s (fun _ => false) (putF F t (p, b)) (R ++ [(t, y ++ [b])]) i (b + 1) ∧ reach T L.length s = bfs T L.length f (i + 1) (rowS T i (L.length - (b + 1)) (b + 1) (R ++ [(t, y ++ [b])]))) := Lib.hid ⟨hSI, by rw [HRR.out, HAD.out, hAdd]⟩
            have q4 : Row (W3.setCell ⟨w.heap.size, t, none⟩ (.bool true)) w.heap.size 4 (sbv (putF F t (p, b)) N) := by have := q3.set t (.bool true); rwa [sbv_set (p, b)] at this
            have b4 : Below w.heap.size w (W3.setCell ⟨w.heap.size, t, none⟩ (.bool true)) := b3.setCell (Nat.le_refl _) _
            have o4 := o3.kept (grown_setCell W3 w.heap.size t (.bool true)) (.inr (fun e => q3.not_own o3 (by decide) e.symm))
            have u4 := u3.kept (grown_setCell W3 w.heap.size t (.bool true)) (.inr (fun e => q3.not_own u3 (by decide) e.symm))
            clear hAdd hSI HNW HKN HRM hF HO HU q3 b3 o3 u3 HRR HAD HPC o2 u2 q2 b2
            obtain ⟨g8, c8, rfl, hg8, hg8b, hx8⟩ := own_words u4 (by omega)
            have cw := hx8 i hlt
            have hz3 : (W3.setCell ⟨w.heap.size, t, none⟩ (.bool true)).heap.size = W3.heap.size := by simp
            have hnr : Row ((W3.setCell ⟨w.heap.size, t, none⟩ (.bool true)).alloc (.cells #[.int .i64 (t : Int)] 3)) W3.heap.size 3 [.int .i64 (t : Int)] := row_new hz3
            rw [HY.out] at cw
            clear hx8
            go_wp2_with (at_builtin; refine wpList_append_own_at _ rfl _ _ 29 rfl w.heap.size 3 j0 (.int .i64 0) 1 8 Tryd.underlying29 ji jz0 jz1 jz2 rfl (by decide) _ _ _ rfl (o4.alloc _) ⟨W3.heap.size, 0, none⟩ 1 1 [.int .i64 (t : Int)] rfl rfl (news_one hnr) (by simp [Value.oneCell']) (by unfold maxLen; omega) (by omega) (by have := b4.size; simp; simp at this; omega) ?_; intro v5 W5 o5 hg5 _ _; have b5 := b4.trans (app1' o4 b4.size hg5); have q5 := (q4.alloc (.cells #[.int .i64 (t : Int)] 3)).grown hg5 (q4.not_own o4 (by decide)); have u5 := (u4.alloc (.cells #[.int .i64 (t : Int)] 3)).kept hg5 (own_apart u4 o4 (by decide)).symm)
            have cw5 := u5.cells (g := g8) rfl i _ (mw_at hlt)
            rw [WideShapes.add_plain, Nat.zero_add, HY.out] at cw5
            have h97 : IntKind.i64.wrap (97 + (b : Int)) = 97 + (b : Int) := IntWalk.i64_in _ (by omega)
            have h98 : IntKind.u8.wrap (97 + (b : Int)) = 97 + (b : Int) := by simp [IntKind.wrap, IntKind.bits, IntKind.signed]; omega
            have hb4 : b < 4 := by omega
            have hcv := wS_one hb4 (V := (W5.alloc (.cells #[.int .u8 (97 + (b : Int))] 5)).drew) (row_new rfl).drew
            have KS : Hid (∀ W, Below W5.heap.size W5 W → W.cell? ⟨g8, i, none⟩ = some (.string (wS y))) := Lib.hid (fun W hW => (hW.cell (p := ⟨g8, i, none⟩) (block_lt_of_cell cw5)).trans cw5)
            obtain ⟨z1, hz1⟩ : ∃ z1 : ByteArray, ⟨#[UInt8.ofNat (97 + b)]⟩ = z1 := ⟨_, rfl⟩
            have hz2 : z1.size = 1 := by rw [← hz1]; rfl
            have hy2 : (wS y).size = y.length := wS_len y
            have hcat : (wS y).size + z1.size ≤ 9223372036854775807 := by omega
            have HCW : Hid (wS y ++ z1 = wS (y ++ [b])) := Lib.hid (by rw [wS_snoc y b hb4, hz1])
            rw [hz1] at hcv
            obtain ⟨x1, hx1⟩ : ∃ x1, wS y = x1 := ⟨_, rfl⟩
            rw [hx1] at cw5 KS hcat HCW
            have HX1 := Lib.hid hx1
            have hb5 := b5.size
            clear hz1 hz2 hy2 hx1
            clear cw hnr hz3 o4 q4 u4 b4 hg5 ci c3 f3 hg8b
            have u6 : (((W5.alloc (.cells #[.int .u8 (97 + (b : Int))] 5)).alloc (.cells #[.string (x1 ++ z1)] 9)).drew).ownsRow w.heap.size 9 1 (.slice (some ⟨g8, 0, none⟩) R.length c8) R.length (mw R) := ((u5.alloc _).alloc _).drew
            have q6 : Row (((W5.alloc (.cells #[.int .u8 (97 + (b : Int))] 5)).alloc (.cells #[.string (x1 ++ z1)] 9)).drew) w.heap.size 4 (sbv (putF F t (p, b)) N) := ((q5.alloc _).alloc _).drew
            have o6 := ((o5.alloc (.cells #[.int .u8 (97 + (b : Int))] 5)).alloc (.cells #[.string (x1 ++ z1)] 9)).drew
            have b6 : Below w.heap.size w (((W5.alloc (.cells #[.int .u8 (97 + (b : Int))] 5)).alloc (.cells #[.string (x1 ++ z1)] 9)).drew) := ((b5.alloc hb5 _).alloc (by simp; omega) _).drew
            have n6 : Row (((W5.alloc (.cells #[.int .u8 (97 + (b : Int))] 5)).alloc (.cells #[.string (x1 ++ z1)] 9)).drew) (W5.heap.size + 1) 9 [.string (x1 ++ z1)] := (row_new (by simp)).drew
            have hcx : (mw R)[i]? = some (.string x1) := by rw [mw_at hlt, HY.out, HX1.out]
            go_region_held_law (fun w' => w'.cell? ⟨g8, i, none⟩ = some (.string x1)) (first | assumption | exact KS.out _ (by repeat (first | exact Below.refl _ _ | (refine Below.drew ?_) | (refine Below.alloc ?_ (by first | exact Nat.le_refl _ | (simp; done) | (simp; omega)) _)))) ((refine step_append_own_keep rfl (.tmp 55) (.tmp 66) 89 rfl w.heap.size 9 k0 (.string ⟨#[]⟩) 1 16 Tryd.underlying89 ki kz0 kz1 kz2 rfl Nat.zero_lt_one g8 c8 R.length _ rfl u6 ⟨W5.heap.size + 1, 0, none⟩ 1 1 [.string (x1 ++ z1)] rfl rfl (news_one n6) (by simp [Value.oneCell']) (by unfold maxLen; omega) (by omega) b6.size ?_; intro v9 w9 u9 hg9 hk9; have hS9 := hk9 i _ hcx))
            have o9 := o6.kept hg9 (own_apart o6 u6 (by decide)).symm
            have q9 := q6.grown hg9 (q6.not_own u6 (by decide))
            have b9 := b6.grown hg9 b6.size (fun g h => by injection h with h; omega)
            have HMW : Hid (mw (R ++ [(t, y ++ [b])]) = mw R ++ [.string (x1 ++ z1)]) := Lib.hid (by rw [mw_snoc, HCW.out])
            have HMI : Hid (iv (mi (R ++ [(t, y ++ [b])])) = iv (mi R) ++ [.int .i64 (t : Int)]) := Lib.hid (by rw [mi_snoc, iv_snoc])
            clear hS9 hk9 hg9 u6 o6 q6 b6 n6 hcx
            go_wp2
            go_roundw
            case rel => exact ⟨b + 1, R ++ [(t, y ++ [b])], putF F t (p, b), by go_num, by omega, by rw [List.length_append]; omega, by rw [List.length_append, HMI.out]; exact o9, by rw [List.length_append, HMW.out]; exact u9, q9, b9, HI3⟩
            case measure => simp [intOf]; omega
          · rw [hF] at c3
            obtain ⟨hAdd, hSI⟩ := HKN.out hF
            have HI3 : Hid (SI T L.length n s (fun _ => false) F R i (b + 1) ∧ reach T L.length s = bfs T L.length f (i + 1) (rowS T i (L.length - (b + 1)) (b + 1) R)) := Lib.hid ⟨hSI, by rw [HRR.out, HAD.out, hAdd]⟩
            clear hAdd hSI HNW HKN HRM hF HO HU HRR HAD HPC o2 u2 q2 b2
            go_wp2
            go_roundw
            case rel => exact ⟨b + 1, R, F, by go_num, by omega, hlt, o3, u3, q3, b3, HI3⟩
            case measure => simp [intOf]; omega
        · obtain rfl : b = L.length := by omega
          have g1 : decide (L.length < L.length) = false := decide_eq_false hc
          have HI3 : Hid (SI T L.length n s (fun _ => false) F R (i + 1) 0 ∧ reach T L.length s = bfs T L.length f (i + 1) R) := Lib.hid ⟨HI.out.1.next HM.out hlt, by have := HI.out.2; rw [Nat.sub_self] at this; exact this⟩
          clear HI
          go_wp2
          go_roundw
          case rel => exact ⟨i + 1, f, R, F, by go_num, by omega, by omega, o2, u2, q2, b2, HI3⟩
          case measure => simp [intOf]; omega
    · have g1 : decide (i < R.length) = false := decide_eq_false hlt
      have hz : R = Z := by rw [← HZ.out, HI.out.2, bfs_end (by omega)]
      rw [mi_len] at o2
      subst hz
      clear HI
      go_wp2
      go_ret2
      exact ⟨_, _, rfl, o2, u2, b2⟩
end Go.Proofs.YtignbpipdfjkeaaDoor
