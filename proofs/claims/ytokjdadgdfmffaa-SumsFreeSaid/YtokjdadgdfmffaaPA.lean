/- Comparing, sorting, keys and copies of sets of elements. -/
import Derived.Test.YtokjdadgdfmffaaKI
import Derived.Sort.Grow
import Derived.Shelf.SlSortCmp.NoneTotal
import Derived.Shelf.SlGeneric
import Derived.Ground.SlsfProg
import Derived.Shelf.SlIter.Collect
import Derived.Laws.IdiomRangeMap
/- Comparing two elements. -/
namespace Go.Proofs.Ytokjdadgdfmffaa
open Go.RowKit Go.Sort
set_option maxHeartbeats 1000000
set_option maxRecDepth 100000
/-- The order of two numbers, as -1, 0 or 1. -/
def cmpI (x y : Int) : Int := if x < y then -1 else if y < x then 1 else 0
theorem isNaN_any (x : Int) (w : World) : Calls Try.prog 90 #[.int .i64 x] w fun e w' => e = .returned (.bool false) ∧ w = w' := by
  go_enter Try.func90, Try.ntmps90
  go_wp2
  go_ret
  exact ⟨ret_bool (by simp), rfl⟩
theorem Compare_any (x y : Int) (w : World) : Calls Try.prog 84 #[.int .i64 x, .int .i64 y] w fun e w' => e = .returned (.int .i64 (cmpI x y)) ∧ w = w' := by
  have H1 := fun W => isNaN_any x W
  have H2 := fun W => isNaN_any y W
  unfold cmpI
  rcases Int.lt_trichotomy x y with h | h | h
  · rw [if_pos h]
    have g1 : decide (x < y) = true := decide_eq_true h
    go_enter Try.func84, Try.ntmps84
    go_wp2_with (go_at_call 90; first | (with_reducible refine (H1 _).mono ?_; rintro e w' ⟨rfl, rfl⟩) | (with_reducible refine (H2 _).mono ?_; rintro e w' ⟨rfl, rfl⟩))
    go_ret
    exact ⟨rfl, rfl⟩
  · subst h
    have g1 : decide (x < x) = false := decide_eq_false (by omega)
    rw [if_neg (by omega), if_neg (by omega)]
    go_enter Try.func84, Try.ntmps84
    go_wp2_with (go_at_call 90; first | (with_reducible refine (H1 _).mono ?_; rintro e w' ⟨rfl, rfl⟩))
    go_ret
    exact ⟨rfl, rfl⟩
  · have g1 : decide (x < y) = false := decide_eq_false (by omega)
    have g2 : decide (y < x) = true := decide_eq_true h
    rw [if_neg (by omega), if_pos h]
    go_enter Try.func84, Try.ntmps84
    go_wp2_with (go_at_call 90; first | (with_reducible refine (H1 _).mono ?_; rintro e w' ⟨rfl, rfl⟩) | (with_reducible refine (H2 _).mono ?_; rintro e w' ⟨rfl, rfl⟩))
    go_ret
    exact ⟨rfl, rfl⟩
theorem iv_ints {w : World} {g : Nat} {t : TypeId} {xs : List Int} (h : Row w g t (iv xs)) : IntsAt w (some ⟨g, 0, none⟩) xs := fun _ => ⟨g, 0, rfl, h.lt, fun i hi => by
  rw [Nat.zero_add, h.cell]
  unfold iv
  rw [List.getElem?_map, List.getElem?_eq_getElem hi, geti_eq hi]; rfl⟩
/-- The order of two elements. -/
def cm2 (x y : Int × Int) : Int := if cmpI x.1 y.1 = 0 then cmpI x.2 y.2 else cmpI x.1 y.1
theorem Cmp2_any (p q : Addr) (c d : Nat) (x y : Int × Int) (w : World) (hx : IntsAt w (some p) [x.1, x.2]) (hy : IntsAt w (some q) [y.1, y.2]) :
    Calls Try.prog 77 #[.slice (some p) 2 c, .slice (some q) 2 d] w fun e w' => e = .returned (.int .i64 (cm2 x y)) ∧ w = w' := by
  obtain ⟨b, o, hp, hb, hc⟩ := hx (by simp)
  obtain ⟨b', o', hq, hb', hc'⟩ := hy (by simp)
  cases hp
  cases hq
  obtain ⟨x1, x2⟩ := x
  obtain ⟨y1, y2⟩ := y
  have k0 := hc 0 (by simp)
  have k1 := hc 1 (by simp)
  have l0 := hc' 0 (by simp)
  have l1 := hc' 1 (by simp)
  simp only [geti, List.getD_cons_zero, List.getD_cons_succ, Nat.add_zero] at k0 k1 l0 l1
  unfold cm2
  simp only
  have H1 := Lib.hid (fun V => Compare_any x1 y1 V)
  have H2 := Lib.hid (fun V => Compare_any x2 y2 V)
  generalize cmpI x1 y1 = c1 at *
  generalize cmpI x2 y2 = c2 at *
  clear hc hc' hx hy
  have R0 : Hid (c1 = 0 → (if c1 = 0 then c2 else c1) = c2) := Lib.hid (fun h => if_pos h)
  have R1 : Hid (¬ c1 = 0 → (if c1 = 0 then c2 else c1) = c1) := Lib.hid (fun h => if_neg h)
  generalize (if c1 = 0 then c2 else c1) = r at *
  go_enter Try.func77, Try.ntmps77
  go_wp2
  go_loopw [11] (fun i wr => ((i = .int .i64 0) ∨ (i = .int .i64 1 ∧ Hid (c1 = 0)) ∨ (i = .int .i64 2 ∧ Hid (c1 = 0) ∧ Hid (c2 = 0))) ∧ w = wr) (fun i _ => 2 - (intOf i).toNat)
  case atStart => exact ⟨.inl rfl, rfl⟩
  case round =>
    obtain ⟨h, rfl⟩ := hrel
    rcases h with rfl | ⟨rfl, z1⟩ | ⟨rfl, z1, z2⟩
    · cases g : (c1 != 0)
      · go_wp2_with (go_at_call 84; (with_reducible refine (H1.out _).mono ?_); rintro e w' ⟨rfl, rfl⟩)
        go_roundw
        case rel => exact ⟨.inr (.inl ⟨by go_num, Lib.hid (by simpa using g)⟩), trivial⟩
        case measure => simp [intOf]
      · go_wp2_with (go_at_call 84; (with_reducible refine (H1.out _).mono ?_); rintro e w' ⟨rfl, rfl⟩)
        go_ret
        exact ⟨by rw [R1.out (by simpa using g)]; rfl, rfl⟩
    · cases g : (c2 != 0)
      · go_wp2_with (go_at_call 84; (with_reducible refine (H2.out _).mono ?_); rintro e w' ⟨rfl, rfl⟩)
        go_roundw
        case rel => exact ⟨.inr (.inr ⟨by go_num, z1, Lib.hid (by simpa using g)⟩), trivial⟩
        case measure => simp [intOf]
      · go_wp2_with (go_at_call 84; (with_reducible refine (H2.out _).mono ?_); rintro e w' ⟨rfl, rfl⟩)
        go_ret
        exact ⟨by rw [R0.out z1.out]; rfl, rfl⟩
    · go_wp2
      go_ret
      exact ⟨by rw [R0.out z1.out, z2.out]; rfl, rfl⟩
theorem cl_any (x y : Int × Int) (W : World) : Calls Try.prog 76 #[.agg #[.int .i64 x.1, .int .i64 x.2], .agg #[.int .i64 y.1, .int .i64 y.2]] W fun e w' => e = .returned (.int .i64 (cm2 x y)) ∧ ∃ q os', w' = grow (W.drewN q) os' := by
  have H1 := Lib.hid (fun (p q : Addr) (V : World) (hx : IntsAt V (some p) [x.1, x.2]) (hy : IntsAt V (some q) [y.1, y.2]) => Cmp2_any p q 2 2 x y V hx hy)
  generalize cm2 x y = r at *
  obtain ⟨x1, x2⟩ := x
  obtain ⟨y1, y2⟩ := y
  simp only at *
  go_enter Try.func76, Try.ntmps76
  go_wp2
  have r1 : Row ((W.alloc (Obj.cells #[.int .i64 x1, .int .i64 x2] 69)).alloc (Obj.cells #[.int .i64 y1, .int .i64 y2] 69)) W.heap.size 69 (iv [x1, x2]) := Row.alloc (row_new rfl) _
  have r2 : Row ((W.alloc (Obj.cells #[.int .i64 x1, .int .i64 x2] 69)).alloc (Obj.cells #[.int .i64 y1, .int .i64 y2] 69)) (W.heap.size + 1) 69 (iv [y1, y2]) := row_new (by simp)
  have A1 := iv_ints r1
  have A2 := iv_ints r2
  clear r1 r2
  have GW : ∃ os, ((W.alloc (Obj.cells #[.int .i64 x1, .int .i64 x2] 69)).alloc (Obj.cells #[.int .i64 y1, .int .i64 y2] 69)) = grow W os := ⟨_, by rw [alloc_eq_grow, alloc_eq_grow, grow_grow]⟩
  generalize ((W.alloc (Obj.cells #[.int .i64 x1, .int .i64 x2] 69)).alloc (Obj.cells #[.int .i64 y1, .int .i64 y2] 69)) = V at *
  have B1 := Lib.hid A1
  have B2 := Lib.hid A2
  have G2 := Lib.hid GW
  clear A1 A2 GW
  refine wp_region_quiet_lit (by kernel_rfl) (by kernel_rfl) ?_
  repeat go_big_quiet_step ((exact quiet_same (H1.out ⟨_, _, _⟩ ⟨_, _, _⟩ _ (B1.out.drewN _) (B2.out.drewN _))))
  refine wpQuiet_nil ?_
  rintro _ ⟨nq, rfl⟩
  go_wp2
  go_ret
  obtain ⟨os, rfl⟩ := G2.out
  exact ⟨rfl, nq, os, rfl⟩
end Go.Proofs.Ytokjdadgdfmffaa
/- The sums in their order. -/
namespace Go.Proofs
open Go.Shelf
def Try.sortE_ren : Go.Shelf.Ren := ⟨fun | 6 => 82 | 15 => 89 | 14 => 88 | 28 => 99 | 29 => 100 | 20 => 91 | 21 => 92 | 22 => 93 | 23 => 94 | 24 => 95 | 25 => 96 | 26 => 97 | 27 => 98 | 46 => 101 | 47 => 102 | 48 => 103 | 49 => 104 | 50 => 105 | 57 => 106 | n => n, fun | 22 => 64 | 24 => 69 | 25 => 100 | 3 => 3 | 39 => 84 | 0 => 0 | 53 => 108 | 55 => 111 | 4 => 4 | 46 => 119 | 45 => 118 | 50 => 123 | 5 => 5 | 9 => 9 | 66 => 127 | 70 => 131 | 76 => 133 | 77 => 134 | n => n, fun | n => n⟩
theorem Try.sortE : Go.Proofs.SlLaysF0.n6 Try.prog Try.sortE_ren := {
  mixed := by kernel_rfl
  f6 := ⟨Try.f82.name, by decide, Try.func82.trans (congrArg some (by kernel_rfl))⟩
  f14 := ⟨Try.f88.name, by decide, Try.func88.trans (congrArg some (by kernel_rfl))⟩
  f15 := Try.func89.trans (congrArg some (by kernel_rfl))
  f20 := ⟨Try.f91.name, by decide, Try.func91.trans (congrArg some (by kernel_rfl))⟩
  f21 := ⟨Try.f92.name, by decide, Try.func92.trans (congrArg some (by kernel_rfl))⟩
  f22 := ⟨Try.f93.name, by decide, Try.func93.trans (congrArg some (by kernel_rfl))⟩
  f23 := ⟨Try.f94.name, by decide, Try.func94.trans (congrArg some (by kernel_rfl))⟩
  f24 := ⟨Try.f95.name, by decide, Try.func95.trans (congrArg some (by kernel_rfl))⟩
  f25 := ⟨Try.f96.name, by decide, Try.func96.trans (congrArg some (by kernel_rfl))⟩
  f26 := ⟨Try.f97.name, by decide, Try.func97.trans (congrArg some (by kernel_rfl))⟩
  f27 := ⟨Try.f98.name, by decide, Try.func98.trans (congrArg some (by kernel_rfl))⟩
  f28 := Try.func99.trans (congrArg some (by kernel_rfl))
  f29 := Try.func100.trans (congrArg some (by kernel_rfl))
  f46 := ⟨Try.f101.name, by decide, Try.func101.trans (congrArg some (by kernel_rfl))⟩
  f47 := Try.func102.trans (congrArg some (by kernel_rfl))
  f48 := Try.func103.trans (congrArg some (by kernel_rfl))
  f49 := ⟨Try.f104.name, by decide, Try.func104.trans (congrArg some (by kernel_rfl))⟩
  f50 := ⟨Try.f105.name, by decide, Try.func105.trans (congrArg some (by kernel_rfl))⟩
  f57 := ⟨Try.f106.name, by decide, Try.func106.trans (congrArg some (by kernel_rfl))⟩
  t0 := Try.underlying0
  a0 := Try.isAgg0
  z0 := Try.sizeOf0
  v0 := Try.zeroValue0
  t3 := Try.underlying3
  a3 := Try.isAgg3
  z3 := Try.sizeOf3
  v3 := Try.zeroValue3
  t4 := Try.underlying4
  a4 := Try.isAgg4
  z4 := Try.sizeOf4
  v4 := Try.zeroValue4
  t5 := Try.underlying5
  a5 := Try.isAgg5
  z5 := Try.sizeOf5
  v5 := Try.zeroValue5
  t9 := Try.underlying9
  a9 := Try.isAgg9
  z9 := Try.sizeOf9
  v9 := Try.zeroValue9
  t22 := Try.underlying64
  a22 := Try.isAgg64
  z22 := Try.sizeOf64
  v22 := Try.zeroValue64
  t25 := Try.underlying100
  a25 := Try.isAgg100
  z25 := Try.sizeOf100
  v25 := Try.zeroValue100
  t39 := Try.underlying84
  a39 := Try.isAgg84
  z39 := Try.sizeOf84
  v39 := Try.zeroValue84
  t45 := Try.underlying118
  a45 := Try.isAgg118
  z45 := Try.sizeOf118
  v45 := Try.zeroValue118
  t46 := Try.underlying119
  a46 := Try.isAgg119
  z46 := Try.sizeOf119
  v46 := Try.zeroValue119
  t50 := Try.underlying123
  a50 := Try.isAgg123
  z50 := Try.sizeOf123
  v50 := Try.zeroValue123
  t53 := Try.underlying108
  a53 := Try.isAgg108
  z53 := Try.sizeOf108
  v53 := Try.zeroValue108
  t55 := Try.underlying111
  a55 := Try.isAgg111
  z55 := Try.sizeOf111
  v55 := Try.zeroValue111
  t66 := Try.underlying127
  a66 := Try.isAgg127
  z66 := Try.sizeOf127
  v66 := Try.zeroValue127
  t70 := Try.underlying131
  a70 := Try.isAgg131
  z70 := Try.sizeOf131
  v70 := Try.zeroValue131
  t76 := Try.underlying133
  a76 := Try.isAgg133
  z76 := Try.sizeOf133
  v76 := Try.zeroValue133
  t77 := Try.underlying134
  a77 := Try.isAgg134
  z77 := Try.sizeOf134
  v77 := Try.zeroValue134 }
end Go.Proofs
namespace Go.Proofs.Ytokjdadgdfmffaa
open Go.RowKit Go.Sort Go.Lib
set_option maxHeartbeats 1000000
set_option maxRecDepth 100000
def enc2 (x : Int × Int) : List Value := [.int .i64 x.1, .int .i64 x.2]
/-- Pairs in memory. -/
def PairsAt (w : World) (A : Option Addr) (ds : List (Int × Int)) : Prop :=
  0 < ds.length → ∃ b o, A = some ⟨b, o, none⟩ ∧ b < w.heap.size ∧ ∀ i (h : i < ds.length), w.cell? ⟨b, o + i * 2, none⟩ = some (.int .i64 ds[i].1) ∧ w.cell? ⟨b, o + i * 2 + 1, none⟩ = some (.int .i64 ds[i].2)
theorem PairsAt.below {w w' : World} {A : Option Addr} {ds : List (Int × Int)} (h : PairsAt w A ds) (k : Below w.heap.size w w') : PairsAt w' A ds := fun hp => by
  obtain ⟨b, o, e, hb, hc⟩ := h hp
  refine ⟨b, o, e, Nat.lt_of_lt_of_le hb k.size, fun i hi => ?_⟩
  rw [k.cell hb, k.cell hb]
  exact hc i hi
abbrev lt2 : Int × Int → Int × Int → Bool := ltOf cm2
theorem lt2_iff (x y : Int × Int) : lt2 x y = decide (x.1 < y.1 ∨ (x.1 = y.1 ∧ x.2 < y.2)) := by
  unfold lt2 ltOf cm2 cmpI
  refine decide_eq_decide.2 ?_
  (repeat' split) <;> omega
theorem swo2 : SWO lt2 where
  irrefl x := by rw [lt2_iff]; exact decide_eq_false (by omega)
  trans x y z h1 h2 := by rw [lt2_iff] at *; have h1 := of_decide_eq_true h1; have h2 := of_decide_eq_true h2; exact decide_eq_true (by omega)
  ntrans x y z h1 h2 := by rw [lt2_iff] at *; have h1 := of_decide_eq_false h1; have h2 := of_decide_eq_false h2; exact decide_eq_false (by omega)
theorem tot2 : ∀ x y : Int × Int, lt2 x y = false → lt2 y x = false → x = y := fun x y h1 h2 => by
  rw [lt2_iff] at h1 h2
  have h1 := of_decide_eq_false h1
  have h2 := of_decide_eq_false h2
  exact Prod.ext (by omega) (by omega)
def srt2 (d : List (Int × Int)) : List (Int × Int) := d.mergeSort fun x y => !lt2 y x
theorem srt2_len (d : List (Int × Int)) : (srt2 d).length = d.length := by unfold srt2; simp
theorem flat2 (d : Array (Int × Int)) {i : Nat} (hi : i < d.size) : (flatK enc2 2 d)[i * 2]! = .int .i64 d[i].1 ∧ (flatK enc2 2 d)[i * 2 + 1]! = .int .i64 d[i].2 := by
  rw [get_flatK _ _ _ _ (by omega), get_flatK _ _ _ _ (by omega), show i * 2 / 2 = i by omega, show (i * 2 + 1) / 2 = i by omega, show i * 2 % 2 = 0 by omega, show (i * 2 + 1) % 2 = 1 by omega, getElem!_pos d i hi]
  exact ⟨rfl, rfl⟩
theorem flat2_pcs (ds : List (Int × Int)) : flatK enc2 2 ds.toArray = (pcs ds).toArray := by
  refine ext_get! (by simp [pcs_len]; omega) fun t ht => ?_
  have ht' : t < ds.length * 2 := by simpa using ht
  have hi : t / 2 < ds.toArray.size := by simp; omega
  obtain ⟨f1, f2⟩ := flat2 ds.toArray hi
  obtain ⟨p1, p2⟩ := pcs_at ds (t / 2) (by simpa using hi)
  have h3 : (pcs ds).toArray[t]! = ((pcs ds)[t]?).getD default := by rw [getElem!_pos _ t (by simp [pcs_len]; omega)]; simp [List.getElem?_eq_getElem (show t < (pcs ds).length by rw [pcs_len]; omega)]
  rw [h3]
  have h2 : t % 2 = 0 ∨ t % 2 = 1 := by omega
  rcases h2 with h2 | h2
  · rw [show t / 2 * 2 = t by omega] at f1 p1
    rw [f1, p1]; simp
  · rw [show t / 2 * 2 + 1 = t by omega] at f2 p2
    rw [f2, p2]; simp
theorem sort2_any (ds : List (Int × Int)) (hl : ds.length ≤ 1000000) (W : World) (g cap : Nat) (hg : g < W.heap.size) (hH : HoldsK enc2 2 W g 0 ds.toArray) :
    Calls Try.prog 82 #[.slice (some ⟨g, 0, none⟩) ds.length cap, .func (.func 76) #[] #[]] W fun e w' => e = .returned (.tuple #[]) ∧ PairsAt w' (some ⟨g, 0, none⟩) (srt2 ds) ∧ w'.os = W.os ∧ w'.tape = W.tape ∧ w'.output = W.output ∧ W.heap.size ≤ w'.heap.size ∧ ∀ k, k < W.heap.size → k ≠ g → w'.heap[k]? = W.heap[k]? := by
  have eg : ∀ args w, (callFunc 76 args).run Try.prog w = .ok (.enter 76 args) w := enters_of Try.func76 (by kernel_rfl) rfl
  have hsz : ds.toArray.size = ds.length := by simp
  have aE : ∀ w, (isAgg (Try.sortE_ren.t 24)).run Try.prog w = .ok true w := Try.isAgg69
  have zE : ∀ w, (Go.sizeOf (Try.sortE_ren.t 24)).run Try.prog w = .ok 2 w := Try.sizeOf69
  have hcmp : CmpLays Try.prog 76 #[] enc2 2 cm2 g 0 ds.toArray.size W := fun m os dk _ x y => cl_any x y _
  have hcon := AnyQ.slices_SortFunc_total Try.sortE 2 aE zE enc2 (fun _ => rfl) (fun x v hv => by simp [enc2] at hv; rcases hv with rfl | rfl <;> rfl) cm2 swo2 76 #[] g 0 cap ds.toArray W eg hcmp hH hg (by rw [hsz]; omega) tot2
  rw [hsz] at hcon
  change Calls Try.prog 82 _ _ _ at hcon
  refine hcon.mono ?_
  rintro e w' ⟨rfl, m, os, rfl⟩
  have hs2 : (ds.toArray.toList.mergeSort fun x y => !lt2 y x).toArray.size = ds.toArray.size := by simp
  have hH2 := holdsK_sortWorldK_c enc2 2 W g 0 ds.toArray (ds.toArray.toList.mergeSort fun x y => !lt2 y x).toArray m os hH hg hs2
  refine ⟨rfl, fun hp => ⟨g, 0, rfl, ?_, fun i hi => ?_⟩, rfl, rfl, rfl, ?_, fun k hk hne => ?_⟩
  · exact Nat.lt_of_lt_of_le hg (size_sortWorldK_c _ _ _ _ _ _ _ _)
  · have hi2 : i < (ds.toArray.toList.mergeSort fun x y => !lt2 y x).toArray.size := by rw [hs2]; simpa [srt2_len] using hi
    obtain ⟨f1, f2⟩ := flat2 _ hi2
    have h1 := (hH2 (i * 2) (by simp at hi2 ⊢; omega)).1
    have h2 := (hH2 (i * 2 + 1) (by simp at hi2 ⊢; omega)).1
    rw [f1] at h1
    rw [f2] at h2
    exact ⟨h1, by rw [Nat.add_assoc]; exact h2⟩
  · exact size_sortWorldK_c _ _ _ _ _ _ _ _
  · unfold sortWorldK
    rw [heap_grow_old _ _ (by rw [size_putRowK]; exact hk)]
    have : g ≠ k := fun e => hne e.symm
    simp [putRowK, putRow, mapBlock, Sort.ahead, Array.getElem?_modify, this]
end Go.Proofs.Ytokjdadgdfmffaa
/- The keys of a map of elements, one after another. -/
namespace Go.Proofs.Ytokjdadgdfmffaa
open Go.RowKit Go.Maps Go.Sort
set_option maxHeartbeats 1000000
set_option maxRecDepth 100000
/-- How a bool is read. -/
def bR : Value → Option (DataW Unit × List MemPlace)
  | .bool b => some (.lit (.bool b), [])
  | _ => none
theorem bR_inv (v : Value) (y : DataW Unit × List MemPlace) (h : bR v = some y) : ∃ c, v = .bool c := by
  unfold bR at h
  split at h
  · exact ⟨_, rfl⟩
  · cases h
abbrev encP (x : Int × Int) : Value := .agg #[.int .i64 x.1, .int .i64 x.2]
/-- All keys of a map are elements. -/
def KeyE (m n : Nat) (D : DataW Unit) : Prop := ∀ kl, has D kl = true → ∃ a b, El m n a b ∧ kl = KE a b
/-- The keys of a map as a list. -/
def SetL (m n : Nat) (D : DataW Unit) (ss : List (Int × Int)) : Prop := ss.Nodup ∧ (∀ x ∈ ss, El m n x.1 x.2) ∧ ∀ x : Int × Int, El m n x.1 x.2 → (x ∈ ss ↔ has D (KE x.1 x.2) = true)
def ColE (m n : Nat) (D : DataW Unit) (left : Lit → Bool) (ss : List (Int × Int)) : Prop := ss.Nodup ∧ (∀ x ∈ ss, El m n x.1 x.2) ∧ ∀ x : Int × Int, El m n x.1 x.2 → (x ∈ ss ↔ has D (KE x.1 x.2) = true ∧ left (KE x.1 x.2) = false)
theorem ColE.start (m n : Nat) (D : DataW Unit) : ColE m n D (has D) [] := ⟨List.nodup_nil, by simp, fun x _ => by cases has D (KE x.1 x.2) <;> simp⟩
theorem same_key {m n : Nat} {a b c d : Int} (hg : Gr m n) (h : El m n a b) (h2 : El m n c d) : (KE a b).sameKey (KE c d) = decide (a = c ∧ b = d) := by
  have k1 := K69.key (key_el hg h)
  have k2 := K69.key (key_el hg h2)
  by_cases e : a = c ∧ b = d
  · obtain ⟨rfl, rfl⟩ := e
    rw [WideAt.sameKey_self k1, decide_eq_true ⟨rfl, rfl⟩]
  · rw [decide_eq_false e]
    exact sameKey_ne (fun e2 => e (KE_inj hg h h2 e2))
theorem ColE.step {m n : Nat} (hg : Gr m n) {D : DataW Unit} {left : Lit → Bool} {ss : List (Int × Int)} (h : ColE m n D left ss) {x : Int × Int} (hx : El m n x.1 x.2) {y : DataW Unit} (hlk : left (KE x.1 x.2) = true) (hat : ∀ zd, D.atKey (KE x.1 x.2) zd = y) : ColE m n D (fun z => left z && !z.sameKey (KE x.1 x.2)) (ss ++ [x]) := by
  have hhas : has D (KE x.1 x.2) = true := has_true_of_atKey hat
  have hnew : x ∉ ss := fun hm => by have := ((h.2.2 x hx).1 hm).2; rw [hlk] at this; cases this
  refine ⟨List.nodup_append.2 ⟨h.1, by simp, fun a ha b hb => by simp at hb; subst hb; exact fun e => hnew (e ▸ ha)⟩, fun z hz => ?_, fun y hy => ?_⟩
  · rcases List.mem_append.1 hz with hz | hz
    · exact h.2.1 z hz
    · rw [List.mem_singleton.1 hz]; exact hx
  · show _ ↔ _ ∧ (left (KE y.1 y.2) && !(KE y.1 y.2).sameKey (KE x.1 x.2)) = false
    rw [same_key hg hy hx]
    by_cases e : y = x
    · subst e; simp [hhas]
    · have e2 : ¬ (y.1 = x.1 ∧ y.2 = x.2) := fun ⟨p, q⟩ => e (Prod.ext p q)
      simp [h.2.2 y hy, e, e2]
theorem keys1 {m n : Nat} (hg : Gr m n) (F : Fence) (N : Nat) (h83 : F.fn 83) (hro : F.round = none) (hn : 1 ≤ N) (l Bm b nn : Nat) (D0 : DataW Unit) (hKE : KeyE m n D0) (J : List (Int × Int) → World → Prop)
    (hY : ∀ pre x W, J pre W → pre.length < Maps.size D0 → YieldAt F (N - 1) Try.prog l #[encP x] W fun e W' => e = .returned (.bool true) ∧ J (pre ++ [x]) W' ∧ KeepsWalks W W')
    (W : World) (hJ : AbidesFrom W.heap.size J) (hm : W.cell? ⟨Bm, 0, none⟩ = some (.map (some b))) (hown : W.ownsMap Try.prog 69 bR b nn D0) (h0 : J [] W) :
    CallsIn F N Try.prog 83 #[.func (.yield l) #[] #[], .pointer (some ⟨Bm, 0, none⟩)] W fun e W' => (∃ v, e = .returned v) ∧ ∃ ss : List (Int × Int), SetL m n D0 ss ∧ J ss W' := by
  refine callsIn_of_wp Try.func83 rfl h83 ?_ hro
  simp only [Try.ntmps83, List.size_toArray, List.length_cons, List.length_nil, Nat.reduceAdd, Nat.reduceSub, Array.replicate_succ, Array.replicate_zero, List.push_toArray, List.append_toArray, List.nil_append, List.cons_append]
  gi_wp2_with (first
    | (gi_at_range; refine wpListIn_range_own _ rfl _ 94 rfl 69 4 K69 Try.underlying94 _ b nn _ rfl hown ?_; intro w0 hrg0 hg0 hs0)
    | gi_in)
  go_frame
  gi_loopw [3] (fun _ wr => ∃ (left : Lit → Bool) (cnt : Nat) (ss : List (Int × Int)), wr.ranges Try.prog 69 bR b W.heap.size nn D0 left cnt ∧ ss.length + cnt ≤ Maps.size D0 ∧ ColE m n D0 left ss ∧ J ss wr)
    (fun _ wr => wr.rangeLeft b W.heap.size)
  case atStart =>
    exact ⟨_, _, [], hrg0, by simp, ColE.start m n D0, hJ [] W w0 none h0 hg0 (fun r e => by cases e)⟩
  case round =>
    obtain ⟨left, cnt, ss, hrg, hcs, hC, hJs⟩ := hrel
    gi_wp2_with (first
      | (gi_at_next; refine wpListIn_next_ranges _ rfl _ rfl 69 K69 bR id id (fun key kl hk => ⟨key, rfl⟩) (fun v _ _ => ⟨v, rfl⟩) b W.heap.size nn _ _ _ rfl hrg ?_ ?_)
      | gi_in)
    · intro hc0 hl0
      gi_wp2
      go_end0
      exact ⟨⟨_, rfl⟩, ss, ⟨hC.1, hC.2.1, fun x hx => by rw [hC.2.2 x hx, hl0]; simp⟩, hJs⟩
    · intro x c kl yd yp w2 cnt2 hkey hlk hv hat hrg2 hlt hg2 hs2 hen
      obtain ⟨a, b', hel, rfl⟩ := hKE kl (has_true_of_atKey hat)
      have ex : x = encP (a, b') := K69.inj hkey (key_el hg hel)
      subst ex
      have hJ2 : J ss w2 := hJ ss wr w2 (some W.heap.size) hJs hg2 (fun r e => by cases e; exact ⟨Nat.le_refl _, hrg.iter_walk⟩)
      have hst := hC.step hg (x := (a, b')) hel hlk hat
      clear hs2
      have hJ3 : J ss (w2.alloc (.cells #[.int .i64 a, .int .i64 b'] 69)) := hJ ss w2 _ none hJ2 (World.grownBy_alloc _ _ none) (fun r e => by cases e)
      obtain ⟨fn, tmps, assign, body, hy, hR⟩ := hY ss (a, b') _ hJ3 (by omega)
      have hy2 : (Instr.yield l #[.agg #[.int .i64 a, .int .i64 b']]).run Try.prog (w2.alloc (.cells #[.int .i64 a, .int .i64 b'] 69)) = .ok (.round l fn tmps assign body) (w2.alloc (.cells #[.int .i64 a, .int .i64 b'] 69)) := hy
      clear hy
      gi_wp2
      refine hR.mono ?_
      rintro e W3 ⟨rfl, hJ4, hk3⟩
      gi_wp2
      have hrg3 := hrg2.of_walks ((KeepsWalks.alloc _ _).trans hk3)
      go_roundw
      case rel => exact ⟨_, cnt2, ss ++ [(a, b')], hrg3, by simp; omega, hst, hJ4⟩
      case measure => rw [hrg3.left_eq, hrg.left_eq]; exact hlt
end Go.Proofs.Ytokjdadgdfmffaa
/- Collecting the keys. -/
namespace Go.Proofs.Ytokjdadgdfmffaa
open Go.RowKit Go.Maps Go.Sort
set_option maxHeartbeats 2000000
set_option maxRecDepth 100000
def apA : Code := (Code.region 2 #[{ dst := some 5, op := Op.alloc 69, type := 0, pos := "iter.go:51", after := #[], guard := none }, { dst := none, op := Op.store 69 (Operand.tmp 5) (Operand.tmp 7), type := 0, pos := "iter.go:51", after := #[{ on := 0, ground := Ground.data }, { on := 0, ground := Ground.phase }], guard := none }] false)
def apB : Code := (Code.block 1 (Code.region 3 #[{ dst := some 8, op := Op.load 64 (Operand.tmp 2), type := 64, pos := "iter.go:52", after := #[], guard := none }, { dst := some 9, op := Op.load 69 (Operand.tmp 5), type := 69, pos := "iter.go:52", after := #[], guard := none }, { dst := some 10, op := Op.buildSlice 64 1 #[(0, Operand.tmp 9)], type := 64, pos := "iter.go:52", after := #[{ on := 1, ground := Ground.data }], guard := none }, { dst := some 11, op := Op.call { callee := Callee.builtin Builtin.append, args := #[Operand.tmp 8, Operand.tmp 10], argTypes := #[64, 64] }, type := 64, pos := "iter.go:52", after := #[{ on := 0, ground := Ground.data }, { on := 2, ground := Ground.data }], guard := none }, { dst := none, op := Op.store 64 (Operand.tmp 2) (Operand.tmp 11), type := 0, pos := "iter.go:52", after := #[{ on := 3, ground := Ground.data }, { on := 3, ground := Ground.chain }, { on := 0, ground := Ground.phase }, { on := 1, ground := Ground.phase }, { on := 2, ground := Ground.phase }, { on := 3, ground := Ground.phase }], guard := none }] false))
def apR (fn : FuncId) (sv : Value) (Bs D : Nat) (st : LoopState) (pend : Option Code) : Loop :=
  { state := st, pending := pend, fn, tmps := #[.slice none 0 0, sv, .pointer (some ⟨Bs, 0, none⟩), undef, .slice none 0 0, undef, sv, undef, undef, undef, undef, undef, undef], params := #[7], assign := apA, body := apB, defers := D }
/-- Between two rounds. -/
structure ApAt (w0 : World) (fn : FuncId) (sv : Value) (Bs l D : Nat) (ss : List (Int × Int)) (W : World) : Prop where
  box : ∃ v, W.heap[Bs]? = some (.cells #[v] 64 (0, 0)) ∧ W.ownsRow w0.heap.size 69 2 v ss.length (pcs ss)
  lo : W.heap[l]? = some (.loop (apR fn sv Bs D .ready none))
  de : W.heap[D]? = some (.deferred (some []))
  below : Below w0.heap.size w0 W
theorem ap_abides (w0 : World) (fn : FuncId) (sv : Value) (Bs l D B : Nat) (hB : w0.heap.size ≤ B) : AbidesFrom B (ApAt w0 fn sv Bs l D) := fun s W W' row h hg hrow => by
  have hrow' : ∀ r, row = some r → ∃ o : Obj, W.heap[r]? = some o ∧ o.isWalk = true := fun r e => (hrow r e).2
  obtain ⟨v, hv, hr⟩ := h.box
  exact ⟨⟨v, (grownBy_keeps hg hrow' hv rfl).trans hv, ownsRow_abides_a hr hg hrow'⟩, (grownBy_keeps hg hrow' h.lo rfl).trans h.lo, (grownBy_keeps hg hrow' h.de rfl).trans h.de,
    h.below.grown hg h.below.size (fun k e => Nat.le_trans hB (hrow k e).1)⟩
theorem news_p {W : World} {g : Nat} {a b : Int} (h : Row W g 69 [.int .i64 a, .int .i64 b]) : ∀ j u, ([.int .i64 a, .int .i64 b] : List Value)[j]? = some u → W.cell? ((⟨g, 0, none⟩ : Addr).add j) = some u := fun j u hu => by
  rw [WideShapes.add_plain, Nat.zero_add, h.cell, hu]
theorem ap_yield (F : Fence) (m : Nat) (w0 : World) (fn : FuncId) (hfn : F.fn fn) (sv : Value) (Bs l D : Nat) (hBl : Bs ≠ l) (hDl : D ≠ l) (hDB : D ≠ Bs) (h0B : w0.heap.size ≤ Bs) (h0l : w0.heap.size ≤ l)
    (N : Nat) (hN : N ≤ 1000000) (ss : List (Int × Int)) (x : Int × Int) (W : World) (h : ApAt w0 fn sv Bs l D ss W) (hlen : ss.length < N) :
    YieldAt F m Try.prog l #[encP x] W fun e W' => e = .returned (.bool true) ∧ ApAt w0 fn sv Bs l D (ss ++ [x]) W' ∧ KeepsWalks W W' := by
  obtain ⟨j0, ji, jz0, jz1, jz2⟩ := info_parts info69p
  obtain ⟨v, hv, hrow⟩ := h.box
  obtain ⟨x1, x2⟩ := x
  have hpc : pcs (ss ++ [(x1, x2)]) = pcs ss ++ [.int .i64 x1, .int .i64 x2] := pcs_app _ _
  refine ⟨fn, #[.slice none 0 0, sv, .pointer (some ⟨Bs, 0, none⟩), undef, .slice none 0 0, undef, sv, encP (x1, x2), undef, undef, undef, undef, undef], apA, apB, by simpa [apR] using run_yield (P := Try.prog) (args := #[encP (x1, x2)]) h.lo rfl, roundIn_of_wpIn hfn ?_⟩
  have hW1s : (W.alloc (.cells #[.int .i64 x1, .int .i64 x2] 69)).heap.size = W.heap.size + 1 := by simp
  have hkW := KeepsWalks.alloc W (.cells #[.int .i64 x1, .int .i64 x2] 69)
  have hrw : Row (W.alloc (.cells #[.int .i64 x1, .int .i64 x2] 69)) W.heap.size 69 [.int .i64 x1, .int .i64 x2] := row_new rfl
  have h1 : ApAt w0 fn sv Bs l D ss (W.alloc (.cells #[.int .i64 x1, .int .i64 x2] 69)) := ap_abides w0 fn sv Bs l D _ (Nat.le_refl _) ss W _ none h (World.grownBy_alloc _ _ none) (fun r e => by cases e)
  have hlW : l < W.heap.size := (Array.getElem?_eq_some_iff.1 h.lo).1
  unfold apA
  gi_wp2_with gi_round_op_a
  obtain ⟨q, hq⟩ : ∃ q, W.heap.size = q := ⟨_, rfl⟩
  rw [hq] at hrw hW1s hlW ⊢
  obtain ⟨U, hU⟩ : ∃ U, W.alloc (.cells #[.int .i64 x1, .int .i64 x2] 69) = U := ⟨_, rfl⟩
  rw [hU] at hrw hW1s hkW h1 ⊢
  clear hU hrow hv
  obtain ⟨v, hv, hrow⟩ := h1.box
  have hl : l < U.heap.size := (Array.getElem?_eq_some_iff.1 h1.lo).1
  have hbr := run_beginRound (P := Try.prog) h1.lo rfl
  obtain ⟨W2, hW2⟩ : ∃ W2, U.putObj l (.loop { apR fn sv Bs D .ready none with state := .busy }) = W2 := ⟨_, rfl⟩
  rw [hW2] at hbr
  have hg2 : U.grownBy W2 (some l) := by rw [← hW2]; exact grownBy_putObj_a _ _ _
  have hk2 : KeepsWalks W W2 := hkW.trans (by rw [← hW2]; exact KeepsWalks.putObj _ h1.lo rfl)
  have hv2 : W2.heap[Bs]? = some (.cells #[v] 64 (0, 0)) := by rw [← hW2]; exact (World.putObj_heap_other hBl).trans hv
  have hK2 : W2.heap[D]? = some (.deferred (some [])) := by rw [← hW2]; exact (World.putObj_heap_other hDl).trans h1.de
  have hL2 : W2.heap[l]? = some (.loop { apR fn sv Bs D .ready none with state := .busy }) := by rw [← hW2]; exact World.putObj_heap_same hl
  have hrw2 : Row W2 q 69 [.int .i64 x1, .int .i64 x2] := by rw [← hW2]; exact (World.putObj_heap_other (by omega)).trans hrw
  obtain ⟨⟨q1, q2⟩, -⟩ := hrw2.cells2
  have hrow2 : W2.ownsRow w0.heap.size 69 2 v ss.length (pcs ss) := hrow.kept hg2 (ownsRow_ne_a hrow h1.lo (fun cur e => by cases e))
  have hb2 : Below w0.heap.size w0 W2 := h1.below.grown hg2 h1.below.size (fun k e => by cases e; exact h0l)
  obtain ⟨hc2, hf2⟩ := cell_of_box_a hv2
  have hBlt : Bs < W2.heap.size := (Array.getElem?_eq_some_iff.1 hv2).1
  have hl2 : l < W2.heap.size := (Array.getElem?_eq_some_iff.1 hL2).1
  have hDlt : D < W2.heap.size := (Array.getElem?_eq_some_iff.1 hK2).1
  have ne_of : ∀ {j : Nat} {o : Obj}, W2.heap[j]? = some o → (∀ cur, o ≠ .cells cur 69 (0, 0)) → some j ≠ v.ownBlock := fun hj hno => by
    rcases ownsRow_ne_a hrow2 hj hno with e | e
    · rw [e]; simp
    · exact fun e' => e e'.symm
  have hr3 : Row (W2.alloc (.cells #[.int .i64 x1, .int .i64 x2] 69)) W2.heap.size 69 [.int .i64 x1, .int .i64 x2] := row_new rfl
  have hnw := Lib.hid (news_p hr3)
  have hq2 : q < W2.heap.size := hrw2.lt
  clear hW2
  unfold apB
  gi_wp2_with (first
    | (gi_at_builtin; refine wpListIn_append_own _ rfl _ _ 64 rfl w0.heap.size 69 j0 (pv 0 0) 2 16 Try.underlying64 ji jz0 jz1 jz2 rfl (by decide) _ _ _ rfl (hrow2.alloc _) ⟨W2.heap.size, 0, none⟩ 1 1 [.int .i64 x1, .int .i64 x2] rfl rfl hnw.out (by simp [Value.oneCell']) (by unfold maxLen; omega) (by omega) (by have := hb2.size; simp; omega) ?_; intro v' w3 hown' hg3 hnil3
       have hv3 : w3.heap[Bs]? = some (.cells #[v] 64 (0, 0)) := (hg3.block Bs (by simp; omega) (ne_of hv2 (fun cur e => by cases e))).trans ((Below.heap_alloc _ _ Bs hBlt).trans hv2)
       obtain ⟨hc3, hf3⟩ := cell_of_box_a hv3
       obtain ⟨g', cap', cur', rfl, hbase', hgb', hr1, hr2, hr3, hr4⟩ : ∃ g' cap' cur', v' = .slice (some ⟨g', 0, none⟩) (ss.length + 1) cap' ∧ w0.heap.size ≤ g' ∧ w3.heap[g']? = some (.cells cur' 69 (0, 0)) ∧ ss.length + 1 ≤ cap' ∧ cap' ≤ maxLen ∧ cur'.size = cap' * 2 ∧ cur'.toList.take ((ss.length + 1) * 2) = pcs ss ++ [.int .i64 x1, .int .i64 x2] := by
         rcases hown'.2 with ⟨_, h0⟩ | h'
         · exact absurd h0 (by omega)
         · exact h'
       go_frame)
    | gi_round_op_a)
  have hg3' : (W2.alloc (.cells #[.int .i64 x1, .int .i64 x2] 69)).grownBy w3 v.ownBlock := hg3
  have hL3 : w3.heap[l]? = some (.loop { apR fn sv Bs D .ready none with state := .busy }) := (hg3'.block l (by simp; omega) (ne_of hL2 (fun cur e => by cases e))).trans ((Below.heap_alloc _ _ l hl2).trans hL2)
  have hK3 : w3.heap[D]? = some (.deferred (some [])) := (hg3'.block D (by simp; omega) (ne_of hK2 (fun cur e => by cases e))).trans ((Below.heap_alloc _ _ D hDlt).trans hK2)
  obtain ⟨w4, hw4⟩ : ∃ w4, w3.setCell ⟨Bs, 0, none⟩ (.slice (some ⟨g', 0, none⟩) (ss.length + 1) cap') = w4 := ⟨_, rfl⟩
  rw [hw4]
  have hg4 : w3.grownBy w4 (some Bs) := by rw [← hw4]; exact grownBy_setCell0_a _ _ _
  have hv4 : w4.heap[Bs]? = some (.cells #[.slice (some ⟨g', 0, none⟩) (ss.length + 1) cap'] 64 (0, 0)) := by rw [← hw4]; exact heap_setCell_box_a _ hv3
  have hL4 : w4.heap[l]? = some (.loop { apR fn sv Bs D .ready none with state := .busy }) := (hg4.block l (Array.getElem?_eq_some_iff.1 hL3).1 (fun e => hBl (by cases e; rfl))).trans hL3
  have hK4 : w4.heap[D]? = some (.deferred (some [])) := (hg4.block D (Array.getElem?_eq_some_iff.1 hK3).1 (fun e => hDB (by cases e; rfl))).trans hK3
  have hrow4 := hown'.kept hg4 (ownsRow_ne_a hown' hv3 (fun cur e => by cases e))
  have hl4 : l < w4.heap.size := (Array.getElem?_eq_some_iff.1 hL4).1
  have hb3 : Below w0.heap.size w0 w3 := (hb2.alloc hb2.size _).grown hg3' (by have := hb2.size; simp; omega) (fun k e => (hrow2.lt k e).1)
  have hb4 : Below w0.heap.size w0 w4 := hb3.grown hg4 hb3.size (fun k e => by cases e; exact h0B)
  have hk4 : KeepsWalks W w4 := ((hk2.trans (KeepsWalks.alloc _ _)).trans (KeepsWalks.of_grownBy hg3' (ownsRow_not_walk_a (hrow2.alloc _)))).trans (by rw [← hw4]; exact KeepsWalks.setCell _ _ _)
  clear hw4
  refine ⟨_, _, run_endRound none hL4, rfl, ⟨⟨_, (World.putObj_heap_other hBl).trans hv4, ?_⟩, World.putObj_heap_same hl4, (World.putObj_heap_other hDl).trans hK4, hb4.grown (grownBy_putObj_a _ _ _) hb4.size (fun k e => by cases e; exact h0l)⟩, hk4.trans (KeepsWalks.putObj _ hL4 rfl)⟩
  have h9 := hrow4.kept (grownBy_putObj_a w4 l (.loop { { apR fn sv Bs D .ready none with state := .busy } with state := if (none : Option Code).isNone then .ready else .done, pending := none })) (ownsRow_ne_a hrow4 hL4 (fun cur e => by cases e))
  rw [hpc, List.length_append]
  exact h9
theorem appendSeq_any (F : Fence) (n : Nat) (h87 : F.fn 87) (hro : F.round = none) (hn : 2 ≤ n) (g : Nat) (lb : Array Value) (hFg : F.fn g) (eg : ∀ args w, (callFunc g args).run Try.prog w = .ok (.enter g args) w)
    (S : List (Int × Int) → Prop) (N : Nat) (hN : N ≤ 1000000) (w : World) (hseq : SeqGives F (n - 1) Try.prog g lb encP S N w) :
    CallsIn F n Try.prog 87 #[.slice none 0 0, .func (.func g) #[] lb] w fun e w' => ∃ (v : Value) (ss : List (Int × Int)), e = .returned v ∧ S ss ∧ w'.ownsRow w.heap.size 69 2 v ss.length (pcs ss) ∧ Below w.heap.size w w' := by
  have h1 : 1 ≤ n := by omega
  refine callsIn_of_wp_marks Try.func87 rfl h87 ?_ hro
  simp only [Try.ntmps87, List.size_toArray, List.length_cons, List.length_nil, Nat.reduceAdd, Nat.reduceSub, Array.replicate_succ, Array.replicate_zero, List.push_toArray, List.append_toArray, List.nil_append, List.cons_append]
  gi_wp2
  refine wpIn_rangeFunc ?_
  intro fn hfn
  rw [hro]
  obtain ⟨W0, hW0⟩ : ∃ W0, w.alloc (.cells #[.slice none 0 0] 64) = W0 := ⟨_, rfl⟩
  have hs0 : W0.heap.size = w.heap.size + 1 := by rw [← hW0]; simp
  have hv0 : W0.heap[w.heap.size]? = some (.cells #[.slice none 0 0] 64 (0, 0)) := by rw [← hW0]; exact World.alloc_heap_new w _
  have hb0 : Below w.heap.size w W0 := by rw [← hW0]; exact (Below.refl _ w).alloc (Nat.le_refl _) _
  rw [hW0]
  obtain ⟨W1, hW1⟩ : ∃ W1, (W0.alloc (.deferred (some []))).alloc (.loop (apR fn (.func (.func g) #[] lb) w.heap.size W0.heap.size .ready none)) = W1 := ⟨_, rfl⟩
  have hold : ∀ k, k < W0.heap.size → W1.heap[k]? = W0.heap[k]? := fun k hk => by
    rw [← hW1]; exact (Below.heap_alloc _ _ k (by simp; omega)).trans (Below.heap_alloc _ _ k hk)
  have hb1 : Below w.heap.size w W1 := by rw [← hW1]; exact (hb0.alloc hb0.size _).alloc (by have := hb0.size; simp; omega) _
  have hs1 : W1.heap.size = W0.heap.size + 2 := by rw [← hW1]; simp
  have hM : ApAt w fn (.func (.func g) #[] lb) w.heap.size (W0.heap.size + 1) W0.heap.size [] W1 :=
    ⟨⟨_, (hold w.heap.size (by omega)).trans hv0, ⟨rfl, .inl ⟨rfl, rfl⟩⟩⟩,
     by rw [← hW1]; have := World.alloc_heap_new (W0.alloc (.deferred (some []))) (.loop (apR fn (.func (.func g) #[] lb) w.heap.size W0.heap.size .ready none)); rwa [World.size_alloc] at this,
     by rw [← hW1]; exact (Below.heap_alloc _ _ _ (by simp)).trans (World.alloc_heap_new W0 _), hb1⟩
  refine ⟨W0.heap.size + 1, [{ target := .collected W0.heap.size, args := #[] }], W1, { target := .fn (.func g) lb, args := #[.func (.yield (W0.heap.size + 1)) #[] #[]] }, W1, g,
    #[.func (.yield (W0.heap.size + 1)) #[] #[]] ++ lb, W1, ?_, ?_, ?_, ?_, fun _ => h1, ?_⟩
  · rw [← hW1]; exact run_enterLoop_outer _ _ _ _ _
  · simp [resolve, go_sem]
  · intro f' hf'; simp [Target.leads] at hf'; subst hf'; exact hFg
  · simp [invoke, go_sem, eg]
  · refine (hseq (W0.heap.size + 1) (ApAt w fn (.func (.func g) #[] lb) w.heap.size (W0.heap.size + 1) W0.heap.size) W1 hb1 (ap_abides _ _ _ _ _ _ _ hb1.size)
      (fun pre x W hJ hl => ap_yield F (n - 1 - 1) w fn hfn _ w.heap.size (W0.heap.size + 1) W0.heap.size (by omega) (by omega) (by omega) (Nat.le_refl _) (by omega) N hN pre x W hJ hl) hM).mono ?_
    rintro e W2 ⟨⟨v0, rfl⟩, ss, hS, h2⟩
    obtain ⟨v, hv, hrow⟩ := h2.box
    have hend := run_endLoop (P := Try.prog) h2.lo (by simp [apR])
    obtain ⟨W3, hW3⟩ : ∃ W3, W2.putObj (W0.heap.size + 1) (.loop { apR fn (.func (.func g) #[] lb) w.heap.size W0.heap.size .ready none with state := .exhausted }) = W3 := ⟨_, rfl⟩
    rw [hW3] at hend
    have hg3 : W2.grownBy W3 (some (W0.heap.size + 1)) := by rw [← hW3]; exact grownBy_putObj_a _ _ _
    have hv3 : W3.heap[w.heap.size]? = some (.cells #[v] 64 (0, 0)) := by rw [← hW3]; exact (World.putObj_heap_other (by omega)).trans hv
    have hK3 : W3.heap[W0.heap.size]? = some (.deferred (some [])) := by rw [← hW3]; exact (World.putObj_heap_other (by omega)).trans h2.de
    have hrow3 := hrow.kept hg3 (ownsRow_ne_a hrow h2.lo (fun cur e => by cases e))
    have hb3 : Below w.heap.size w W3 := h2.below.grown hg3 h2.below.size (fun k e => by cases e; omega)
    obtain ⟨hc3, hf3⟩ := cell_of_box_a hv3
    clear hW3
    refine ⟨none, W3, hend, ?_⟩
    gi_wp2
    rw [← hs0]
    refine ⟨by simp, .inl ⟨_, _, rfl, run_takeDeferred hK3, ?_⟩⟩
    exact ⟨_, results_tmp rfl _ _ _, v, ss, rfl, hS, hrow3.kept (grownBy_putObj_a _ _ _) (ownsRow_ne_a hrow3 hK3 (fun cur e => by cases e)), hb3.grown (grownBy_putObj_a _ _ _) hb3.size (fun k e => by cases e; omega)⟩
theorem collect_any (F : Fence) (n : Nat) (h81 : F.fn 81) (h87 : F.fn 87) (hro : F.round = none) (hn : 3 ≤ n) (g : Nat) (lb : Array Value) (hFg : F.fn g) (eg : ∀ args w, (callFunc g args).run Try.prog w = .ok (.enter g args) w)
    (S : List (Int × Int) → Prop) (N : Nat) (hN : N ≤ 1000000) (w : World) (hseq : SeqGives F (n - 1 - 1) Try.prog g lb encP S N w) :
    CallsIn F n Try.prog 81 #[.func (.func g) #[] lb] w fun e w' => ∃ (v : Value) (ss : List (Int × Int)), e = .returned v ∧ S ss ∧ w'.ownsRow w.heap.size 69 2 v ss.length (pcs ss) ∧ Below w.heap.size w w' := by
  have h1 : 1 ≤ n := by omega
  have e87 : ∀ args w, (callFunc 87 args).run Try.prog w = .ok (.enter 87 args) w := enters_of Try.func87 (by kernel_rfl) rfl
  refine callsIn_of_wp Try.func81 rfl h81 ?_ hro
  simp only [Try.ntmps81, List.size_toArray, List.length_cons, List.length_nil, Nat.reduceAdd, Nat.reduceSub, Array.replicate_succ, Array.replicate_zero, List.push_toArray, List.append_toArray, List.nil_append, List.cons_append]
  gi_wp2_with (gi_at_fn 87; refine (appendSeq_any F (n - 1) h87 hro (by omega) g lb hFg eg S N hN _ hseq).mono ?_; rintro e w' ⟨v, ss, rfl, hS, hrow, hb⟩)
  go_ret
  exact ⟨v, ss, rfl, hS, hrow, hb⟩
end Go.Proofs.Ytokjdadgdfmffaa
/- The keys of a map in their order. -/
namespace Go.Proofs.Ytokjdadgdfmffaa
open Go.RowKit Go.Maps Go.Sort Go.Lib
set_option maxHeartbeats 1000000
set_option maxRecDepth 100000
theorem keys_any (mb : Option Nat) (w : World) : Calls Try.prog 75 #[.map mb] w fun e w' => e = .returned (.func (.func 83) #[] #[.pointer (some ⟨w.heap.size, 0, none⟩)]) ∧ w' = w.alloc (.cells #[.map mb] 94) := by
  go_enter Try.func75, Try.ntmps75
  go_wp2
  go_ret
  exact ⟨rfl, rfl⟩
theorem sort2_own {base : Nat} {W : World} {v : Value} {ss : List (Int × Int)} (hl : ss.length ≤ 1000000) (h : W.ownsRow base 69 2 v ss.length (pcs ss)) :
    Calls Try.prog 82 #[v, .func (.func 76) #[] #[]] W fun e w' => e = .returned (.tuple #[]) ∧ (∃ A c, v = .slice A ss.length c ∧ PairsAt w' A (srt2 ss)) ∧ ∀ w0, w0.heap.size ≤ base → Below w0.heap.size w0 W → Below w0.heap.size w0 w' := by
  rcases h.2 with ⟨rfl, h0⟩ | ⟨g, cap, cur, rfl, hbase, hg, hc1, hc2, hc3, hc4⟩
  · have e : ss = [] := List.eq_nil_of_length_eq_zero h0
    subst e
    refine (AnyF.slices_SortFunc_none Try.sortE none 0 (.func (.func 76) #[] #[]) W).mono ?_
    rintro e w' ⟨rfl, rfl⟩
    exact ⟨rfl, ⟨none, 0, rfl, fun hp => absurd hp (by simp [srt2])⟩, fun w0 _ hb => hb⟩
  · have hgl : g < W.heap.size := (Array.getElem?_eq_some_iff.1 hg).1
    have hH : HoldsK enc2 2 W g 0 ss.toArray := fun j hj => by
      rw [flat2_pcs] at hj ⊢
      have hj2 : j < (pcs ss).length := by simpa using hj
      have hj3 : j < (ss.length) * 2 := by rw [pcs_len] at hj2; omega
      have hjc : j < cur.size := by rw [hc3]; exact Nat.lt_of_lt_of_le hj3 (Nat.mul_le_mul_right 2 hc1)
      have e1 : cur[j]? = (pcs ss)[j]? := by
        have := congrArg (fun l => l[j]?) hc4
        simp only [List.getElem?_take] at this
        rw [if_pos hj3] at this
        rw [← this]; simp
      refine ⟨?_, ?_⟩
      · rw [Nat.zero_add, getElem!_pos _ j (by simpa using hj2)]
        simp only [World.cell?, hg]
        simpa [List.getElem?_eq_getElem hj2] using e1
      · simp [World.frozen?, hg]
    refine (sort2_any ss hl W g cap hgl hH).mono ?_
    rintro e w' ⟨rfl, hp, h1, h2, h3, h4, h5⟩
    exact ⟨rfl, ⟨_, _, rfl, hp⟩, fun w0 hw0 hb => ⟨h1.trans hb.os, h2.trans hb.tape, h3.trans hb.output, Nat.le_trans hb.size h4, fun k hk => (h5 k (Nat.lt_of_lt_of_le hk hb.size) (by omega)).trans (hb.block k hk)⟩⟩
theorem lenP {α : Type} [DecidableEq α] : ∀ (A B : List α), A.Nodup → (∀ x ∈ A, x ∈ B) → A.length ≤ B.length
  | [], B, _, _ => by simp
  | a :: A, B, hn, h => by
    have hn := List.nodup_cons.1 hn
    have hb := h a (by simp)
    have := lenP A (B.erase a) hn.2 fun x hx => (List.mem_erase_of_ne (fun e => hn.1 (by rw [← e]; exact hx))).2 (h x (List.mem_cons_of_mem _ hx))
    rw [List.length_erase_of_mem hb] at this
    have := List.length_pos_of_mem hb
    simp only [List.length_cons]
    omega
/-- The elements of a group. -/
def allE (m n : Nat) : List (Int × Int) := (List.range (m * n)).map fun c => (((c / n : Nat) : Int), ((c % n : Nat) : Int))
theorem mem_allE {m n : Nat} (x : Int × Int) (hx : El m n x.1 x.2) : x ∈ allE m n := by
  obtain ⟨a, b⟩ := x
  obtain ⟨h1, h2, h3, h4⟩ := hx
  simp only at h1 h2 h3 h4
  obtain ⟨a, rfl⟩ := Int.eq_ofNat_of_zero_le h1
  obtain ⟨b, rfl⟩ := Int.eq_ofNat_of_zero_le h3
  have ha : a < m := by omega
  have hb : b < n := by omega
  refine List.mem_map.2 ⟨a * n + b, List.mem_range.2 ?_, ?_⟩
  · calc a * n + b < a * n + n := by omega
      _ = (a + 1) * n := by rw [Nat.add_mul, Nat.one_mul]
      _ ≤ m * n := Nat.mul_le_mul_right n ha
  · have e1 : (a * n + b) / n = a := by rw [Nat.mul_comm, Nat.mul_add_div (by omega), Nat.div_eq_of_lt hb, Nat.add_zero]
    have e2 : (a * n + b) % n = b := by rw [Nat.mul_comm, Nat.mul_add_mod, Nat.mod_eq_of_lt hb]
    rw [e1, e2]
theorem SetL.len {m n : Nat} {D : DataW Unit} {ss : List (Int × Int)} (hg : Gr m n) (h : SetL m n D ss) : ss.length ≤ 576 := by
  have h1 := lenP ss (allE m n) h.1 fun x hx => mem_allE x (h.2.1 x hx)
  have h2 : m * n ≤ 24 * 24 := Nat.mul_le_mul hg.2.1 hg.2.2.2
  unfold allE at h1
  rw [List.length_map, List.length_range] at h1
  omega
theorem sortedFunc_any {m n : Nat} (hg : Gr m n) (Bm b nn : Nat) (D0 : DataW Unit) (hKE : KeyE m n D0) (hsz : Maps.size D0 ≤ 1000000) (w : World) (hBm : Bm < w.heap.size) (hm : w.cell? ⟨Bm, 0, none⟩ = some (.map (some b))) (hown : w.ownsMap Try.prog 69 bR b nn D0) :
    Calls Try.prog 74 #[.func (.func 83) #[] #[.pointer (some ⟨Bm, 0, none⟩)], .func (.func 76) #[] #[]] w fun e w' => ∃ (ss : List (Int × Int)) (A : Option Addr) (c : Nat), e = .returned (.slice A ss.length c) ∧ SetL m n D0 ss ∧ PairsAt w' A (srt2 ss) ∧ Below w.heap.size w w' := by
  have e83 : ∀ args w, (callFunc 83 args).run Try.prog w = .ok (.enter 83 args) w := enters_of Try.func83 (by kernel_rfl) rfl
  refine callsIn_wide.1 (?_ : CallsIn Fence.wide 9 _ _ _ _ _)
  generalize hFw : Fence.wide = F
  have hO : Open F := hFw ▸ Open.wide
  have hro : F.round = none := hFw ▸ rfl
  clear hFw
  have hF := hO.fn
  have F74 := hF 74
  refine callsIn_of_wp Try.func74 rfl F74 ?_ hro
  simp only [Try.ntmps74, List.size_toArray, List.length_cons, List.length_nil, Nat.reduceAdd, Nat.reduceSub, Array.replicate_succ, Array.replicate_zero, List.push_toArray, List.append_toArray, List.nil_append, List.cons_append]
  have HC := Lib.hid (collect_any F 8 (hF 81) (hF 87) hro (by omega) 83 #[.pointer (some ⟨Bm, 0, none⟩)] (hF 83) e83 (SetL m n D0) (Maps.size D0) hsz w (fun l J W hW hJ hY h0 => by
    have hown' : W.ownsMap Try.prog 69 bR b nn D0 := by
      have hbl := hown.lt
      obtain ⟨es, clock, hb, Ft, hs, hD⟩ := hown
      exact ⟨es, clock, (hW.block b hbl).trans hb, Ft, hs, hD⟩
    exact keys1 hg F (8 - 1 - 1) (hF 83) hro (by omega) l Bm b nn D0 hKE J hY W hJ ((hW.cell (p := ⟨Bm, 0, none⟩) hBm).trans hm) hown' h0))
  gi_wp2_with (first
    | (gi_at_call 81; refine HC.out.mono ?_; rintro e w1 ⟨v, ss, rfl, hS, hrow, hb⟩)
    | (gi_at_call 82; refine (hO.lift _ (sort2_own (Nat.le_trans (hS.len hg) (by omega)) hrow)).mono ?_; rintro e w2 ⟨rfl, ⟨A, c, rfl, hpa⟩, hbb⟩))
  go_ret
  exact ⟨ss, A, c, rfl, hS, hpa, hbb w (Nat.le_refl _) hb⟩
end Go.Proofs.Ytokjdadgdfmffaa
/- Sets of elements: copying. -/
namespace Go.Proofs.Ytokjdadgdfmffaa
open Go.RowKit Go.Maps Go.Sort Go.Lib
set_option maxHeartbeats 1000000
set_option maxRecDepth 100000
theorem Copy_any {m n : Nat} (hg : Gr m n) (bd bs nd ns : Nat) (Dd Ds : DataW Unit) (w : World) (hd : w.ownsMap Try.prog 69 bR bd nd Dd) (hs : w.ownsMap Try.prog 69 bR bs ns Ds) (hKE : KeyE m n Ds) (hne : bd ≠ bs) (hroom : nd + Maps.size Ds ≤ maxLen) :
    Calls Try.prog 73 #[.map (some bd), .map (some bs)] w fun e w' => e = .returned (.tuple #[]) ∧ ∃ D', w'.ownsMap Try.prog 69 bR bd (nd + Maps.size Ds) D' ∧ (∀ kl, has D' kl = (has Dd kl || has Ds kl)) ∧ w.grownBy w' (some bd) := by
  have hbd := hd.lt
  have hbs := hs.lt
  go_enter Try.func73, Try.ntmps73
  go_wp2_with (first
    | (at_range; refine wpList_range_own _ rfl _ 94 rfl 69 4 K69 Try.underlying94 bR bs ns _ rfl hs ?_; intro w0 hrg0 hg0 hs0)
    | go_in)
  go_frame
  go_loopw [8] (fun _ wr => ∃ (left : Lit → Bool) (cnt : Nat) (Dout : DataW Unit), wr.ranges Try.prog 69 bR bs w.heap.size ns Ds left cnt ∧ cnt ≤ Maps.size Ds ∧
      wr.ownsMap Try.prog 69 bR bd (nd + (Maps.size Ds - cnt)) Dout ∧ (∀ kl, has Dout kl = (has Dd kl || (has Ds kl && !left kl))) ∧ w.grownBy wr (some bd))
    (fun _ wr => wr.rangeLeft bs w.heap.size)
  case atStart =>
    exact ⟨_, _, Dd, hrg0, Nat.le_refl _, (hd.kept hg0 (by simp)).mono (by omega), fun kl => by cases has Dd kl <;> cases has Ds kl <;> rfl, hg0.but _⟩
  case round =>
    obtain ⟨left, cnt, Dout, hrg, hcs, hout, hM, hgw⟩ := hrel
    go_wp2_with (first
      | (at_next; refine wpList_next_ranges _ rfl _ rfl 69 K69 bR id id (fun key _ _ => ⟨key, rfl⟩) (fun v _ _ => ⟨v, rfl⟩) bs w.heap.size ns _ _ _ rfl hrg ?_ ?_)
      | go_in)
    · intro hc0 hl0
      go_wp2
      go_end0
      subst hc0
      exact ⟨rfl, Dout, by simpa using hout, fun kl => by rw [hM, hl0]; simp, hgw⟩
    · intro x c kl yd yp w1 cnt1 hkey hlx hv hat hrg1 hlt hg1 hs1 hen
      have hhas := has_true_of_atKey hat
      obtain ⟨a, b', hel, rfl⟩ := hKE kl hhas
      have ex : x = encP (a, b') := K69.inj hkey (key_el hg hel)
      subst ex
      have hkey2 : keyOf Try.prog 69 (.agg #[.int .i64 a, .int .i64 b']) = some (KE a b') := hkey
      have hout1 := (hout.kept hg1 (fun e => by have := Option.some.inj e; omega)).alloc (.cells #[.int .i64 a, .int .i64 b'] 69)
      go_wp2_with (first
        | (at_mapUpdate; refine wpList_mapUpdate_own _ rfl _ _ _ 94 rfl 69 4 K69 Try.underlying94 bR bd _ _ rfl hout1 (by omega) _ _ _ rfl rfl hkey2 yd yp hv ?_; intro w2 hout2 hg2; go_frame)
        | go_in)
      have hrg2 := (hrg1.alloc (.cells #[.int .i64 a, .int .i64 b'] 69)).kept hg2 (fun e => hne (Option.some.inj e).symm) (fun e => by have := Option.some.inj e; omega)
      go_roundw
      case rel =>
        refine ⟨_, cnt1, _, hrg2, by omega, hout2.mono (by omega), fun kl => ?_, ((hgw.andThen hg1 (fun j hj => .inl (by cases hj; exact Nat.le_refl _))).andThen (World.grownBy_alloc w1 _ none) (fun j hj => by cases hj)).andThen hg2 (fun j hj => .inr hj)⟩
        by_cases e : kl = KE a b'
        · subst e
          rw [has_put_same hout1.isMap (K69.key hkey), hhas, WideAt.sameKey_self (K69.key hkey)]
          cases has Dd (KE a b') <;> cases left (KE a b') <;> rfl
        · rw [has_put_other e, hM, sameKey_ne e]
          cases left kl <;> rfl
      case measure => rw [hrg2.left_eq, hrg.left_eq]; exact hlt
end Go.Proofs.Ytokjdadgdfmffaa
