/- The function over all lists of positions. -/
import Derived.Test.YtopeppnajbnfgaaFN
namespace Go.Proofs.Ytopeppnajbnfgaa
open Go.RowKit Go.Shelf
set_option maxHeartbeats 1000000
set_option maxRecDepth 100000
theorem made_zeros (M : Nat) : madeCells (Value.int .i64 0).cells (M * 1) = (iv (List.replicate M 0)).toArray := by
  have h : (Value.int .i64 0).cells = #[.int .i64 0] := rfl
  unfold madeCells iv
  rw [h]
  apply Array.ext (by simp)
  intro i h1 h2
  simp [Nat.mod_one]
theorem make_any (M : Nat) (hM : M ≤ 1000) (W : World) : (Instr.makeSlice 23 (.int .i64 0) (.int .i64 (M : Int))).run Try.prog W = .ok (.slice (some ⟨W.heap.size, 0, none⟩) 0 M) (W.alloc (.cells (iv (List.replicate M 0)).toArray 3)) := by
  obtain ⟨j0, ji, jz0, jz1, jz2⟩ := info_parts info3
  have h := run_make (P := Try.prog) W 23 3 j0 (.int .i64 0) Try.underlying23 ji jz0 .i64 .i64 0 (M : Int) (by omega) (by omega) (by rw [jz2]; omega) (by omega)
  rw [jz1, Int.toNat_natCast, made_zeros] at h
  exact h
/-- What is known when all lists, or some, have been visited. -/
def Vis (J Jx : List (List Int) → World → Prop) (L : List (List Int)) (b : Bool) (W' : World) : Prop := (b = true ∧ J L W') ∨ (b = false ∧ ∃ ys, ys <+: L ∧ Jx ys W')
def Box3 (g : Nat) : Nat → Prop := fun k => k = g ∨ k = g + 1 ∨ k = g + 1 + 1
structure Boxes (g f n M : Nat) (W : World) : Prop where
  r0 : Row W g 3 [.int .i64 f]
  r1 : Row W (g + 1) 3 [.int .i64 n]
  r2 : Row W (g + 1 + 1) 3 [.int .i64 M]
theorem Boxes.cells {g f n M : Nat} {W : World} (h : Boxes g f n M W) : W.cell? ⟨g + 1 + 1, 0, none⟩ = some (.int .i64 M) ∧ W.cell? ⟨g, 0, none⟩ = some (.int .i64 f) ∧ W.cell? ⟨g + 1, 0, none⟩ = some (.int .i64 n) := ⟨h.r2.cell 0, h.r0.cell 0, h.r1.cell 0⟩
theorem Boxes.grown {g f n M : Nat} {W W' : World} {row : Option Nat} (h : Boxes g f n M W) (hg : W.grownBy W' row) (hr : ∀ r, row = some r → g + 1 + 1 < r) : Boxes g f n M W' :=
  ⟨h.r0.grown hg (fun e => by have := hr _ e.symm; omega), h.r1.grown hg (fun e => by have := hr _ e.symm; omega), h.r2.grown hg (fun e => by have := hr _ e.symm; omega)⟩
theorem Boxes.keep {B g f n M : Nat} {W W' : World} (h : Boxes g f n M W) (k : KeepA B (Box3 g) W W') : Boxes g f n M W' :=
  ⟨k.row h.r0 (.inr (.inl rfl)), k.row h.r1 (.inr (.inr (.inl rfl))), k.row h.r2 (.inr (.inr (.inr rfl)))⟩
theorem lists_seq (m g f n M : Nat) (hf : f ≤ 1) (hn : n ≤ 1000) (hM : M ≤ 1000) (w : World) (r0 : Row w g 3 [.int .i64 f]) (r1 : Row w (g + 1) 3 [.int .i64 n]) (r2 : Row w (g + 1 + 1) 3 [.int .i64 M]) :
    SeqW (α := List Int) Fence.wide m Try.prog 57 #[.pointer (some ⟨g + 1 + 1, 0, none⟩), .pointer (some ⟨g, 0, none⟩), .pointer (some ⟨g + 1, 0, none⟩)] (fun B _ => .slice (some ⟨B, 0, none⟩) M M)
      (fun B x W => x.length = M ∧ Row W B 3 (iv x) ∧ ∀ y ∈ x, 0 ≤ y ∧ y < (n : Int)) (Box3 g) (fun xs => xs = exts n M [] f) (fun pre => pre <+: exts n M [] f) w := by
  intro l J Jx W hW hJ hY h0
  have hbx : Boxes g f n M W := ⟨(hW.block _ r0.lt).trans r0, (hW.block _ r1.lt).trans r1, (hW.block _ r2.lt).trans r2⟩
  have hg2 : g + 1 + 1 < W.heap.size := hbx.r2.lt
  have hJ' : AbAll W.heap.size (fun pre W' => J pre W' ∧ Boxes g f n M W') := fun s A B row hs hg hr => ⟨hJ s A B row hs.1 hg hr, hs.2.grown hg (fun r e => by have := hr r e; omega)⟩
  have hmk := make_any M hM
  obtain ⟨c2, c0, c1⟩ := hbx.cells
  have hj0 : J [] (W.alloc (.cells (iv (List.replicate M 0)).toArray 3)).drew ∧ Boxes g f n M (W.alloc (.cells (iv (List.replicate M 0)).toArray 3)).drew := hJ' _ _ _ none (hJ'.alloc _ (s := []) ⟨h0, hbx⟩) ⟨rfl, rfl, rfl, Nat.le_refl _, fun _ _ _ => rfl⟩ (fun r e => by cases e)
  have hrB : Row (W.alloc (.cells (iv (List.replicate M 0)).toArray 3)).drew W.heap.size 3 (iv (List.replicate M 0)) := (row_new rfl : Row (W.alloc (.cells (iv (List.replicate M 0)).toArray 3)) W.heap.size 3 (iv (List.replicate M 0))).drew
  obtain ⟨k2, k0, k1⟩ := hj0.2.cells
  have HX : Hid (Calls Try.prog 58 #[.slice (some ⟨W.heap.size, 0, none⟩) 0 M, .int .i64 f, .int .i64 n, .int .i64 M, .func (.yield l) #[] #[]] (W.alloc (.cells (iv (List.replicate M 0)).toArray 3)).drew fun e W' => ∃ b : Bool, e = .returned (.bool b) ∧ Hid (Vis J Jx (exts n M [] f) b W') ∧ W'.cell? ⟨g + 1 + 1, 0, none⟩ = some (.int .i64 M) ∧ W'.cell? ⟨g, 0, none⟩ = some (.int .i64 f) ∧ W'.cell? ⟨g + 1, 0, none⟩ = some (.int .i64 n)) := Lib.hid ((callsIn_wide.1 (extend_any Fence.wide Open.wide rfl l M n W.heap.size W.heap.size (m - 1) (Box3 g) hM hn (Nat.le_refl _) (fun pre W' => J pre W' ∧ Boxes g f n M W') (fun pre W' => Jx pre W' ∧ Boxes g f n M W') hJ' (fun pre x W1 hj hx => (by
    obtain ⟨fn, tm, asg, bo, hy, hR⟩ := hY pre x W1 hj.1 hx
    refine ⟨fn, tm, asg, bo, hy, hR.mono fun e W' h => ?_⟩
    rcases h with ⟨rfl, h1, h2⟩ | ⟨rfl, h1, h2⟩
    · exact .inl ⟨rfl, ⟨h1, hj.2.keep h2⟩, h2⟩
    · exact .inr ⟨rfl, ⟨h1, hj.2.keep h2⟩, h2⟩)) M m [] (List.replicate M 0) f [] _ (by simp) (by simp) (by simp) (by omega) (fun y hy => by cases hy) hj0 hrB)).mono fun e W' h => (by
    rcases h with ⟨rfl, hj, -⟩ | ⟨rfl, ys, h1, h2⟩
    · exact ⟨true, rfl, Lib.hid (.inl ⟨rfl, hj.1⟩), hj.2.cells⟩
    · exact ⟨false, rfl, Lib.hid (.inr ⟨rfl, ys, h1, h2.1⟩), h2.2.cells⟩))
  clear hY hj0 hrB r0 r1 r2 hW hJ hJ' h0 hbx
  refine callsIn_wide.2 ?_
  show Calls Try.prog 57 #[.func (.yield l) #[] #[], .pointer (some ⟨g + 1 + 1, 0, none⟩), .pointer (some ⟨g, 0, none⟩), .pointer (some ⟨g + 1, 0, none⟩)] W _
  go_enter Try.func57, Try.ntmps57
  go_wp2
  go_region_held3 (fun w' => w'.cell? ⟨g + 1 + 1, 0, none⟩ = some (.int .i64 M) ∧ w'.cell? ⟨g, 0, none⟩ = some (.int .i64 f) ∧ w'.cell? ⟨g + 1, 0, none⟩ = some (.int .i64 n)) (first | assumption | exact ⟨c2, c0, c1⟩ | exact ⟨k2, k0, k1⟩ | exact ⟨z2, z0, z1⟩ | (trace_state; fail))
    (first | (go_at_call 58; refine HX.out.mono ?_; rintro e w8 ⟨bb, rfl, hh, z2, z0, z1⟩))
  go_wp2
  go_end0
  refine ⟨⟨_, rfl⟩, ?_⟩
  rcases hh.out with ⟨-, h1⟩ | ⟨-, ys, h1, h2⟩
  · exact .inl ⟨_, rfl, h1⟩
  · exact .inr ⟨ys, h1, h2⟩
end Go.Proofs.Ytopeppnajbnfgaa
