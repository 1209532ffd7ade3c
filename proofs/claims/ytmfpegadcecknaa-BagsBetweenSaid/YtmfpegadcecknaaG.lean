/- Reading a graph. -/
import Derived.Test.YtmfpegadcecknaaD
namespace Go.Proofs.Ytmfpegadcecknaa
open Go.RowKit
set_option maxHeartbeats 1000000
def addE (gs : List Nat) (a b : Nat) : List Nat := (gs.set a (sWith (near gs a) b)).set b (sWith (near (gs.set a (sWith (near gs a) b)) b) a)
def okE (n : Int) (gs : List Nat) (e : Int × Int) : Bool := decide (0 ≤ e.1) && (decide (e.1 < e.2) && (decide (e.2 < n) && !sHas (near gs e.1.toNat) e.2.toNat))
def rd (n : Int) : List (Int × Int) → List Nat → Option (List Nat)
  | [], gs => some gs
  | e :: es, gs => if okE n gs e then rd n es (addE gs e.1.toNat e.2.toNat) else none
def readF (n : Int) (es : List (Int × Int)) : Option (List Nat) := if 1 ≤ n ∧ n ≤ 16 then rd n es (List.replicate 16 0) else none
theorem near_set (gs : List Nat) (i j x : Nat) (hi : i < gs.length) : near (gs.set i x) j = if i = j then x else near gs j := by
  unfold near; rw [List.getElem?_set]; by_cases h : i = j
  · subst h; simp [hi]
  · simp [h]
theorem sWith_lt {s v : Nat} (h : s < 65536) (hv : v < 16) : sWith s v < 65536 := Nat.or_lt_two_pow (n := 16) h (Nat.pow_lt_pow_right (by omega) hv)
theorem Rows16.set {gs : List Nat} (h : Rows16 gs) {i v : Nat} {s : Nat} (hs : s < 65536) (hv : v < 16) : Rows16 (gs.set i (sWith s v)) := by
  refine ⟨by simp [h.len], fun j => ?_⟩
  rw [List.getElem?_set]
  have := sWith_lt hs hv
  have := h.lt j
  split
  · split
    · simpa
    · simp
  · exact h.lt j
theorem Rows16.near_lt {gs : List Nat} (h : Rows16 gs) (v : Nat) : near gs v < 65536 := h.lt v
theorem Rows16.addE {gs : List Nat} (h : Rows16 gs) {a b : Nat} (ha : a < 16) (hb : b < 16) : Rows16 (addE gs a b) := by
  unfold Ytmfpegadcecknaa.addE
  exact (h.set (h.near_lt a) hb).set ((h.set (h.near_lt a) hb).near_lt b) ha
theorem gcells_set (n : Nat) (gs : List Nat) (i x : Nat) : (gcells n gs).set (1 + i) (.int .u32 x) = gcells n (gs.set i x) := by
  unfold gcells; rw [Nat.add_comm]; simp [List.map_set]
theorem gcells_at (n : Nat) (gs : List Nat) (h : Rows16 gs) (i : Nat) (hi : i < 16) : (gcells n gs)[1 + i]? = some (.int .u32 (near gs i)) := by
  rw [gcells_s _ _ _ (by rw [h.len]; exact hi)]; rfl
theorem pAB_get {ps : List (Int × Int)} {k : Nat} (h : k < ps.length) : ps[k] = (pA ps k, pB ps k) := by unfold pA pB; simp [h]
theorem rd_step {n : Int} {es : List (Int × Int)} {k : Nat} (h : k < es.length) (gs : List Nat) : rd n (es.drop k) gs = if okE n gs (pA es k, pB es k) then rd n (es.drop (k + 1)) (addE gs (pA es k).toNat (pB es k).toNat) else none := by
  rw [List.drop_eq_getElem_cons h, rd, pAB_get h]
def gval (r : Option (List Nat)) (n : Int) : Value := match r with
  | some gs => .tuple #[.agg (gcells n.toNat gs).toArray, .bool true]
  | none => .tuple #[.agg (gcells 0 (List.replicate 16 0)).toArray, .bool false]
theorem gcells_zero : (gcells 0 (List.replicate 16 0)) = [.int .i64 0, .int .u32 0, .int .u32 0, .int .u32 0, .int .u32 0, .int .u32 0, .int .u32 0, .int .u32 0, .int .u32 0, .int .u32 0, .int .u32 0, .int .u32 0, .int .u32 0, .int .u32 0, .int .u32 0, .int .u32 0, .int .u32 0] := rfl
theorem rows_zero : Rows16 (List.replicate 16 0) := ⟨rfl, fun i => by rw [List.getElem?_replicate]; split <;> simp⟩
theorem row_heap {w : World} {g : Nat} {t : TypeId} {cs : List Value} (h : Row w g t cs) : w.heap[g]? = some (.cells cs.toArray t (0, 0)) := h
theorem gval_some (n : Int) (gs : List Nat) : gval (some gs) n = .tuple #[.agg (gcells n.toNat gs).toArray, .bool true] := rfl
theorem gcells_one (n : Nat) (gs : List Nat) : (gcells n gs).toArray.all (·.oneCell') = true := by
  rw [Array.all_eq_true]; intro i hi
  have : (gcells n gs).toArray[i] = (gcells n gs)[i]'(by simpa using hi) := by simp
  rw [this]
  cases i with
  | zero => rfl
  | succ i => simp [gcells]; rfl
abbrev Z16 : List Nat := List.replicate 16 0
theorem zcells_size : (gcells 0 Z16).toArray.size = 17 := rfl
theorem info75 : (Try.prog.info? 75).map (·.size) = some 17 := by kernel_rfl
theorem gcells_size (n : Nat) {gs : List Nat} (h : Rows16 gs) : (gcells n gs).toArray.size = 17 := by simp [gcells_len, h.len]
theorem zl_one : (#[.int .i64 0, .int .u32 0, .int .u32 0, .int .u32 0, .int .u32 0, .int .u32 0, .int .u32 0, .int .u32 0, .int .u32 0, .int .u32 0, .int .u32 0, .int .u32 0, .int .u32 0, .int .u32 0, .int .u32 0, .int .u32 0, .int .u32 0] : Array Value).all (·.oneCell') = true := gcells_one 0 Z16
theorem zl_size : (Try.prog.info? 75).map (·.size) = some (#[.int .i64 0, .int .u32 0, .int .u32 0, .int .u32 0, .int .u32 0, .int .u32 0, .int .u32 0, .int .u32 0, .int .u32 0, .int .u32 0, .int .u32 0, .int .u32 0, .int .u32 0, .int .u32 0, .int .u32 0, .int .u32 0, .int .u32 0] : Array Value).size := info75
/-- What readGraph hands back. -/
theorem rg_res {W : World} {k m : Nat} {gs : List Nat} {b : Bool} (hg : Rows16 gs) (tm : Array Value) (h4 : tm.getD 4 undef = .pointer (some ⟨k, 0, none⟩)) (h5 : tm.getD 5 undef = .bool b) (hr : Row W k 75 (gcells m gs)) :
    (results Try.f41 tm).run Try.prog W = .ok (.tuple #[.agg (gcells m gs).toArray, .bool b]) W := by
  have h4' : tm[4]?.getD undef = .pointer (some ⟨k, 0, none⟩) := by simpa using h4
  have h5' : tm[5]?.getD undef = .bool b := by simpa using h5
  have hi : (Try.prog.info? 75).map (·.size) = some (gcells m gs).toArray.size := by rw [gcells_size m hg]; exact info75
  have hl := run_loadVar_row (P := Try.prog) W k 75 75 (gcells m gs).toArray (0, 0) _ hr Try.underlying75 rfl hi
  simp [results, Try.results41, h4', h5', asAddr, hl]
set_option maxHeartbeats 4000000 in
theorem readGraph_any (n : Int) (A : Option Addr) (c : Nat) (es : List (Int × Int)) (w : World) (hx : es.length ≤ 1000000) (ha : PairsAt w A es) :
    Calls Try.prog 41 #[.int .i64 n, .slice A es.length c] w fun e w' => e = .returned (gval (readF n es) n) ∧ Below w.heap.size w w' := by
  by_cases hn : 1 ≤ n ∧ n ≤ 16
  · obtain ⟨m, rfl⟩ := Int.eq_ofNat_of_zero_le (show 0 ≤ n by omega)
    have h1 : decide ((m:Int) < 1) = false := by simp; omega
    have h2 : decide ((16:Int) < (m:Int)) = false := by simp; omega
    have HN := Lib.hid hn
    obtain ⟨hn1, hn2⟩ := hn
    have hRF : readF m es = rd m (es.drop 0) Z16 := by unfold readF; rw [if_pos HN.out]; rfl
    have HRF := Lib.hid hRF; clear hRF
    go_enter Try.func41, Try.ntmps41
    go_wp2
    generalize hw1 : World.alloc _ _ = w1
    have HW := Lib.hid hw1
    clear hw1
    have hb : Below w.heap.size w w1 := by rw [← HW.out]; (repeat (first | exact Below.refl _ _ | assumption | (refine Below.setCell ?_ (by first | exact Nat.le_refl _ | omega | (simp; done) | (simp; omega)) _) | (refine Below.trans ?_ (below_drewN _)) | (refine Below.drew ?_) | (refine Below.alloc ?_ (by first | exact Nat.le_refl _ | omega | (simp; done) | (simp; omega)) _) | (refine below_row ?_ (by first | exact Nat.le_refl _ | omega | (simp; done) | (simp; omega)) _)))
    have hz : w.heap.size + 2 ≤ w1.heap.size := by rw [← HW.out]; simp; try omega
    have r0 : Row w1 (w.heap.size) 75 (gcells 0 Z16) := by rw [← HW.out]; repeat (first | (refine row_new ?_; first | rfl | (simp; done)) | refine Row.alloc ?_ _)
    have r1 : Row w1 (w.heap.size + 1) 75 (gcells m Z16) := by rw [← HW.out]; repeat (first | (refine row_new ?_; first | rfl | (simp; done)) | refine Row.alloc ?_ _)
    clear HW
    go_loopw [20] (fun i wr => ∃ (k : Nat) (gs : List Nat), k ≤ es.length ∧ i = .int .i64 k ∧ Rows16 gs ∧ rd m (es.drop k) gs = readF m es ∧ Row wr (w.heap.size) 75 (gcells 0 Z16) ∧ Row wr (w.heap.size + 1) 75 (gcells m gs) ∧ Below w.heap.size w wr) (fun i _ => es.length - (intOf i).toNat)
    case atStart => exact ⟨0, _, by omega, rfl, rows_zero, HRF.out.symm, r0, r1, hb⟩
    case round =>
      obtain ⟨k, gs, hk, rfl, hg, hrd, q0, q1, hbr⟩ := hrel
      have HRD := Lib.hid hrd
      have lt0 := q0.lt
      have lt1 := q1.lt
      clear hrd
      by_cases hlt : k < es.length
      · obtain ⟨b, o, rfl, hb1, hc⟩ := ha (by omega)
        obtain ⟨c1, c2⟩ := hc k hlt
        have c1' : wr.cell? ⟨b, o + k * 2, none⟩ = some (.int .i64 (pA es k)) := (hbr.cell (p := ⟨b, _, none⟩) hb1).trans c1
        have c2' : wr.cell? ⟨b, o + k * 2 + 1, none⟩ = some (.int .i64 (pB es k)) := (hbr.cell (p := ⟨b, _, none⟩) hb1).trans c2
        have hst := rd_step hlt gs (n := m)
        have HST := Lib.hid hst
        clear hc c1 c2 hst
        cases hok : okE m gs (pA es k, pB es k)
        · have HOK := Lib.hid hok
          have hno : readF m es = none := by rw [← HRD.out, HST.out, HOK.out]; rfl
          have HNO := Lib.hid hno
          clear hok hno HST HRD
          generalize hA : pA es k = x at *
          generalize hB : pB es k = y at *
          clear hA hB
          cases g1 : decide (x < 0)
          · cases g2 : decide (y ≤ x)
            · cases g3 : decide ((m:Int) ≤ y)
              · have G1 := of_decide_eq_false g1
                have G2 := of_decide_eq_false g2
                have G3 := of_decide_eq_false g3
                obtain ⟨a', rfl⟩ := Int.eq_ofNat_of_zero_le (show 0 ≤ x by omega)
                obtain ⟨b', rfl⟩ := Int.eq_ofNat_of_zero_le (show 0 ≤ y by omega)
                clear g1 g2 g3
                have e1 : decide ((a':Int) < 0) = false := by simp
                have e2 : decide (b' ≤ a') = false := by simp; omega
                have e3 : decide (m ≤ b') = false := by simp; omega
                have ha16 : a' < 16 := by omega
                have hb16 : b' < 16 := by omega
                have q1c : wr.cell? ⟨w.heap.size + 1, 1 + a', none⟩ = some (.int .u32 (near gs a')) := by rw [q1.cell, gcells_at _ _ hg _ ha16]
                have hh : sHas (near gs a') b' = true := by
                  have := HOK.out
                  unfold okE at this
                  simp only [Int.toNat_natCast] at this
                  have t1 : decide (0 ≤ (a':Int)) = true := by simp
                  have t2 : decide ((a':Int) < b') = true := by simp; omega
                  have t3 : decide ((b':Int) < m) = true := by simp; omega
                  rw [t1, t2, t3] at this
                  simpa using this
                have HH := Lib.hid hh
                clear hh
                have HC : ∀ w, Calls Try.prog 56 #[.int .u32 (near gs a'), .int .i64 b'] w fun e w' => e = .returned (.bool true) ∧ w = w' := fun w => (has_any _ _ w (Nat.lt_trans (hg.near_lt a') (by omega)) (by omega)).mono fun _ _ ⟨h1, h2⟩ => ⟨by rw [h1, HH.out], h2⟩
                have HC' := Lib.hid HC
                clear HC HOK G1 G2 G3
                go_wp2
                refine wp_region_quiet_lit (by kernel_rfl) (by kernel_rfl) ?_
                repeat go_big_quiet_step ((go_at_call 56; exact quiet_same (HC'.out _)))
                refine wpQuiet_nil ?_
                rintro _ ⟨nq, rfl⟩
                go_wp2_with (refine wpList_store_row rfl 75 (.tmp 4) (.tmp 50) rfl w.heap.size (gcells 0 Z16).toArray rfl rfl 75 (gcells 0 Z16).toArray (row_heap (by repeat (first | with_reducible assumption | (with_reducible refine row_new ?_; first | (with_reducible rfl) | (simp; done)) | with_reducible refine Row.alloc ?_ _ | with_reducible refine Row.drewN ?_ _ | with_reducible refine Row.drew ?_))) info75 rfl (gcells_one 0 Z16) ?_)
                refine bodyPost_ret (v := gval none 0) (rg_res rows_zero _ rfl rfl (?_ : Row _ _ 75 (gcells 0 Z16))) rfl ⟨by rw [HNO.out]; rfl, ?_⟩
                · refine Row.row (t := 75) (cs := gcells 0 Z16) ?_ (gcells 0 Z16)
                  (repeat (first | with_reducible assumption | (with_reducible refine row_new ?_; first | (with_reducible rfl) | (simp; done)) | with_reducible refine Row.alloc ?_ _ | with_reducible refine Row.drewN ?_ _ | with_reducible refine Row.drew ?_))
                · (repeat (first | exact Below.refl _ _ | assumption | (refine Below.setCell ?_ (by first | exact Nat.le_refl _ | omega | (simp; done) | (simp; omega)) _) | (refine Below.trans ?_ (below_drewN _)) | (refine Below.drew ?_) | (refine Below.alloc ?_ (by first | exact Nat.le_refl _ | omega | (simp; done) | (simp; omega)) _) | (refine below_row ?_ (by first | exact Nat.le_refl _ | omega | (simp; done) | (simp; omega)) _)))
              · clear HOK
                go_wp2
                refine wp_region_quiet_lit (by kernel_rfl) (by kernel_rfl) ?_
                repeat go_big_quiet_step ((fail))
                refine wpQuiet_nil ?_
                rintro _ ⟨nq, rfl⟩
                go_wp2_with (refine wpList_store_row rfl 75 (.tmp 4) (.tmp 50) rfl w.heap.size (gcells 0 Z16).toArray rfl rfl 75 (gcells 0 Z16).toArray (row_heap (by repeat (first | with_reducible assumption | (with_reducible refine row_new ?_; first | (with_reducible rfl) | (simp; done)) | with_reducible refine Row.alloc ?_ _ | with_reducible refine Row.drewN ?_ _ | with_reducible refine Row.drew ?_))) info75 rfl (gcells_one 0 Z16) ?_)
                refine bodyPost_ret (v := gval none 0) (rg_res rows_zero _ rfl rfl (?_ : Row _ _ 75 (gcells 0 Z16))) rfl ⟨by rw [HNO.out]; rfl, ?_⟩
                · refine Row.row (t := 75) (cs := gcells 0 Z16) ?_ (gcells 0 Z16)
                  (repeat (first | with_reducible assumption | (with_reducible refine row_new ?_; first | (with_reducible rfl) | (simp; done)) | with_reducible refine Row.alloc ?_ _ | with_reducible refine Row.drewN ?_ _ | with_reducible refine Row.drew ?_))
                · (repeat (first | exact Below.refl _ _ | assumption | (refine Below.setCell ?_ (by first | exact Nat.le_refl _ | omega | (simp; done) | (simp; omega)) _) | (refine Below.trans ?_ (below_drewN _)) | (refine Below.drew ?_) | (refine Below.alloc ?_ (by first | exact Nat.le_refl _ | omega | (simp; done) | (simp; omega)) _) | (refine below_row ?_ (by first | exact Nat.le_refl _ | omega | (simp; done) | (simp; omega)) _)))
            · clear HOK
              go_wp2
              refine wp_region_quiet_lit (by kernel_rfl) (by kernel_rfl) ?_
              repeat go_big_quiet_step ((fail))
              refine wpQuiet_nil ?_
              rintro _ ⟨nq, rfl⟩
              go_wp2_with (refine wpList_store_row rfl 75 (.tmp 4) (.tmp 50) rfl w.heap.size (gcells 0 Z16).toArray rfl rfl 75 (gcells 0 Z16).toArray (row_heap (by repeat (first | with_reducible assumption | (with_reducible refine row_new ?_; first | (with_reducible rfl) | (simp; done)) | with_reducible refine Row.alloc ?_ _ | with_reducible refine Row.drewN ?_ _ | with_reducible refine Row.drew ?_))) info75 rfl (gcells_one 0 Z16) ?_)
              refine bodyPost_ret (v := gval none 0) (rg_res rows_zero _ rfl rfl (?_ : Row _ _ 75 (gcells 0 Z16))) rfl ⟨by rw [HNO.out]; rfl, ?_⟩
              · refine Row.row (t := 75) (cs := gcells 0 Z16) ?_ (gcells 0 Z16)
                (repeat (first | with_reducible assumption | (with_reducible refine row_new ?_; first | (with_reducible rfl) | (simp; done)) | with_reducible refine Row.alloc ?_ _ | with_reducible refine Row.drewN ?_ _ | with_reducible refine Row.drew ?_))
              · (repeat (first | exact Below.refl _ _ | assumption | (refine Below.setCell ?_ (by first | exact Nat.le_refl _ | omega | (simp; done) | (simp; omega)) _) | (refine Below.trans ?_ (below_drewN _)) | (refine Below.drew ?_) | (refine Below.alloc ?_ (by first | exact Nat.le_refl _ | omega | (simp; done) | (simp; omega)) _) | (refine below_row ?_ (by first | exact Nat.le_refl _ | omega | (simp; done) | (simp; omega)) _)))
          · clear HOK
            go_wp2
            refine wp_region_quiet_lit (by kernel_rfl) (by kernel_rfl) ?_
            repeat go_big_quiet_step ((fail))
            refine wpQuiet_nil ?_
            rintro _ ⟨nq, rfl⟩
            go_wp2_with (refine wpList_store_row rfl 75 (.tmp 4) (.tmp 50) rfl w.heap.size (gcells 0 Z16).toArray rfl rfl 75 (gcells 0 Z16).toArray (row_heap (by repeat (first | with_reducible assumption | (with_reducible refine row_new ?_; first | (with_reducible rfl) | (simp; done)) | with_reducible refine Row.alloc ?_ _ | with_reducible refine Row.drewN ?_ _ | with_reducible refine Row.drew ?_))) info75 rfl (gcells_one 0 Z16) ?_)
            refine bodyPost_ret (v := gval none 0) (rg_res rows_zero _ rfl rfl (?_ : Row _ _ 75 (gcells 0 Z16))) rfl ⟨by rw [HNO.out]; rfl, ?_⟩
            · refine Row.row (t := 75) (cs := gcells 0 Z16) ?_ (gcells 0 Z16)
              (repeat (first | with_reducible assumption | (with_reducible refine row_new ?_; first | (with_reducible rfl) | (simp; done)) | with_reducible refine Row.alloc ?_ _ | with_reducible refine Row.drewN ?_ _ | with_reducible refine Row.drew ?_))
            · (repeat (first | exact Below.refl _ _ | assumption | (refine Below.setCell ?_ (by first | exact Nat.le_refl _ | omega | (simp; done) | (simp; omega)) _) | (refine Below.trans ?_ (below_drewN _)) | (refine Below.drew ?_) | (refine Below.alloc ?_ (by first | exact Nat.le_refl _ | omega | (simp; done) | (simp; omega)) _) | (refine below_row ?_ (by first | exact Nat.le_refl _ | omega | (simp; done) | (simp; omega)) _)))
        · have HOK := Lib.hid hok
          unfold okE at hok
          simp only [Bool.and_eq_true, decide_eq_true_eq, Bool.not_eq_true'] at hok
          obtain ⟨g1, g2, g3, g4⟩ := hok
          generalize hA : pA es k = x at *
          generalize hB : pB es k = y at *
          obtain ⟨a', rfl⟩ := Int.eq_ofNat_of_zero_le g1
          obtain ⟨b', rfl⟩ := Int.eq_ofNat_of_zero_le (show 0 ≤ y by omega)
          simp only [Int.toNat_natCast] at g4
          clear hA hB
          have e1 : decide ((a':Int) < 0) = false := by simp
          have e2 : decide (b' ≤ a') = false := by simp; omega
          have e3 : decide (m ≤ b') = false := by simp; omega
          have ha16 : a' < 16 := by omega
          have hb16 : b' < 16 := by omega
          have q1c : wr.cell? ⟨w.heap.size + 1, 1 + a', none⟩ = some (.int .u32 (near gs a')) := by rw [q1.cell, gcells_at _ _ hg _ ha16]
          have q1f := q1.free (1 + a')
          have q1f2 := q1.free (1 + b')
          have q2 := q1.set (1 + a') (.int .u32 (sWith (near gs a') b'))
          rw [gcells_set] at q2
          have hg2 := hg.set (i := a') (hg.near_lt a') hb16
          have q2c : (wr.setCell ⟨w.heap.size + 1, 1 + a', none⟩ (.int .u32 (sWith (near gs a') b'))).cell? ⟨w.heap.size + 1, 1 + b', none⟩ = some (.int .u32 (near (gs.set a' (sWith (near gs a') b')) b')) := by rw [q2.cell, gcells_at _ _ hg2 _ hb16]
          have HH := Lib.hid g4
          clear g4 g1 g2 g3 q2
          have HC : ∀ w, Calls Try.prog 56 #[.int .u32 (near gs a'), .int .i64 b'] w fun e w' => e = .returned (.bool false) ∧ w = w' := fun w => (has_any _ _ w (Nat.lt_trans (hg.near_lt a') (by omega)) (by omega)).mono fun _ _ ⟨h1, h2⟩ => ⟨by rw [h1, HH.out], h2⟩
          have HC' := Lib.hid HC
          have HD := Lib.hid (fun w => with_any (near gs a') b' w (Nat.lt_trans (hg.near_lt a') (by omega)) (by omega))
          have HE := Lib.hid (fun w => with_any (near (gs.set a' (sWith (near gs a') b')) b') a' w (Nat.lt_trans (hg2.near_lt b') (by omega)) (by omega))
          clear HC
          go_wp2
          refine wp_region_quiet_lit (by kernel_rfl) (by kernel_rfl) ?_
          repeat go_big_quiet_step ((go_at_call 56; exact quiet_same (HC'.out _)))
          refine wpQuiet_nil ?_
          rintro _ ⟨nq, rfl⟩
          go_wp2
          refine wp_region_quiet_tail 12 (by kernel_rfl) (by kernel_rfl) ?_
          simp only [List.take_succ_cons, List.take_zero, List.drop_succ_cons, List.drop_zero]
          repeat go_big_quiet_step ((go_at_call 57; first | exact quiet_same (HD.out _) | exact quiet_same2 (HD.out _)))
          refine wpQuiet_nil ?_
          rintro _ ⟨nq, rfl⟩
          go_wp2
          generalize hw2 : World.setCell _ _ _ = W2
          have p1 : Row W2 (w.heap.size + 1) 75 (gcells m (gs.set a' (sWith (near gs a') b'))) := by
            rw [← hw2, ← gcells_set]; exact ((q1.alloc _).drewN _).set _ _
          have p0 : Row W2 w.heap.size 75 (gcells 0 Z16) := by
            rw [← hw2]; exact ((q0.alloc _).drewN _).far (by simp) _
          have pe : Row W2 wr.heap.size 67 [.int .i64 a', .int .i64 b'] := by
            rw [← hw2]; exact ((Row.new wr 67 [.int .i64 a', .int .i64 b']).drewN _).far (by simp; omega) _
          have hb2 : Below w.heap.size w W2 := by
            rw [← hw2]; (repeat (first | exact Below.refl _ _ | assumption | (refine Below.setCell ?_ (by first | exact Nat.le_refl _ | omega | (simp; done) | (simp; omega)) _) | (refine Below.trans ?_ (below_drewN _)) | (refine Below.drew ?_) | (refine Below.alloc ?_ (by first | exact Nat.le_refl _ | omega | (simp; done) | (simp; omega)) _) | (refine below_row ?_ (by first | exact Nat.le_refl _ | omega | (simp; done) | (simp; omega)) _)))
          clear hw2
          obtain ⟨⟨u0, u1⟩, _⟩ := pe.cells2
          have p1c : W2.cell? ⟨w.heap.size + 1, 1 + b', none⟩ = some (.int .u32 (near (gs.set a' (sWith (near gs a') b')) b')) := by rw [p1.cell, gcells_at _ _ hg2 _ hb16]
          have p1f := p1.free (1 + b')
          clear q1c q1f q1f2 q2c c1' c2'
          refine wp_region_quiet_tail 12 (by kernel_rfl) (by kernel_rfl) ?_
          simp only [List.take_succ_cons, List.take_zero, List.drop_succ_cons, List.drop_zero]
          repeat go_big_quiet_step ((go_at_call 57; first | exact quiet_same (HE.out _) | exact quiet_same2 (HE.out _)))
          refine wpQuiet_nil ?_
          rintro _ ⟨nq, rfl⟩
          go_wp2
          go_roundw
          case rel =>
            refine ⟨k + 1, addE gs a' b', by omega, by go_num, hg.addE ha16 hb16, ?_, (p0.drewN nq).far (by simp) _, ?_, ?_⟩
            · have h5 := HST.out
              rw [HOK.out] at h5
              rw [← HRD.out, h5]; rfl
            · have h6 := (p1.drewN nq).set (1 + b') (.int .u32 (sWith (near (gs.set a' (sWith (near gs a') b')) b') a'))
              rw [gcells_set] at h6; exact h6
            · (repeat (first | exact Below.refl _ _ | assumption | (refine Below.setCell ?_ (by first | exact Nat.le_refl _ | omega | (simp; done) | (simp; omega)) _) | (refine Below.trans ?_ (below_drewN _)) | (refine Below.drew ?_) | (refine Below.alloc ?_ (by first | exact Nat.le_refl _ | omega | (simp; done) | (simp; omega)) _) | (refine below_row ?_ (by first | exact Nat.le_refl _ | omega | (simp; done) | (simp; omega)) _)))
          case measure => simp [intOf]; omega
      · obtain rfl : k = es.length := by omega
        have hyes : readF m es = some gs := by rw [← HRD.out, List.drop_length]; rfl
        have HY := Lib.hid hyes
        clear hyes
        go_wp2_with (first
          | (refine wpList_load_row rfl 75 (.tmp 6) rfl (w.heap.size + 1) rfl 75 (gcells m gs).toArray (0, 0) _ (row_heap (by repeat (first | with_reducible assumption | (with_reducible refine row_new ?_; first | (with_reducible rfl) | (simp; done)) | with_reducible refine Row.alloc ?_ _ | with_reducible refine Row.drewN ?_ _ | with_reducible refine Row.drew ?_))) Try.underlying75 rfl (by rw [gcells_size m hg]; exact info75) ?_)
          | (refine wpList_store_row rfl 75 (.tmp 4) (.tmp 76) rfl w.heap.size (gcells m gs).toArray rfl rfl 75 (gcells 0 Z16).toArray (row_heap (by repeat (first | with_reducible assumption | (with_reducible refine row_new ?_; first | (with_reducible rfl) | (simp; done)) | with_reducible refine Row.alloc ?_ _ | with_reducible refine Row.drewN ?_ _ | with_reducible refine Row.drew ?_))) (by rw [gcells_size m hg]; exact info75) (by rw [gcells_size m hg]; rfl) (gcells_one m gs) ?_))
        refine bodyPost_ret (v := gval (some gs) m) (rg_res hg _ rfl rfl (?_ : Row _ _ 75 (gcells m gs))) rfl ⟨by rw [HY.out], ?_⟩
        · refine Row.row (t := 75) (cs := gcells 0 Z16) ?_ (gcells m gs)
          (repeat (first | with_reducible assumption | (with_reducible refine row_new ?_; first | (with_reducible rfl) | (simp; done)) | with_reducible refine Row.alloc ?_ _ | with_reducible refine Row.drewN ?_ _ | with_reducible refine Row.drew ?_))
        · (repeat (first | exact Below.refl _ _ | assumption | (refine Below.setCell ?_ (by first | exact Nat.le_refl _ | omega | (simp; done) | (simp; omega)) _) | (refine Below.trans ?_ (below_drewN _)) | (refine Below.drew ?_) | (refine Below.alloc ?_ (by first | exact Nat.le_refl _ | omega | (simp; done) | (simp; omega)) _) | (refine below_row ?_ (by first | exact Nat.le_refl _ | omega | (simp; done) | (simp; omega)) _)))
  · have hno : readF n es = none := by unfold readF; rw [if_neg hn]
    have HNO := Lib.hid hno
    clear hno
    cases h1 : decide (n < 1) <;> cases h2 : decide ((16:Int) < n)
    · simp at h1 h2; omega
    all_goals
      clear hn
      go_enter Try.func41, Try.ntmps41
      go_wp2_with (refine wpList_store_row rfl 75 (.tmp 4) (.tmp 17) rfl w.heap.size #[.int .i64 0, .int .u32 0, .int .u32 0, .int .u32 0, .int .u32 0, .int .u32 0, .int .u32 0, .int .u32 0, .int .u32 0, .int .u32 0, .int .u32 0, .int .u32 0, .int .u32 0, .int .u32 0, .int .u32 0, .int .u32 0, .int .u32 0] rfl rfl 75 #[.int .i64 0, .int .u32 0, .int .u32 0, .int .u32 0, .int .u32 0, .int .u32 0, .int .u32 0, .int .u32 0, .int .u32 0, .int .u32 0, .int .u32 0, .int .u32 0, .int .u32 0, .int .u32 0, .int .u32 0, .int .u32 0, .int .u32 0] (row_heap (by repeat (first | with_reducible assumption | (with_reducible refine row_new ?_; first | (with_reducible rfl) | (simp; done)) | with_reducible refine Row.alloc ?_ _ | with_reducible refine Row.drewN ?_ _ | with_reducible refine Row.drew ?_))) zl_size rfl zl_one ?_)
      refine bodyPost_ret (v := gval none 0) (rg_res rows_zero _ rfl rfl (?_ : Row _ _ 75 [.int .i64 0, .int .u32 0, .int .u32 0, .int .u32 0, .int .u32 0, .int .u32 0, .int .u32 0, .int .u32 0, .int .u32 0, .int .u32 0, .int .u32 0, .int .u32 0, .int .u32 0, .int .u32 0, .int .u32 0, .int .u32 0, .int .u32 0])) rfl ⟨by rw [HNO.out]; rfl, ?_⟩
      · refine Row.row (t := 75) (cs := [.int .i64 0, .int .u32 0, .int .u32 0, .int .u32 0, .int .u32 0, .int .u32 0, .int .u32 0, .int .u32 0, .int .u32 0, .int .u32 0, .int .u32 0, .int .u32 0, .int .u32 0, .int .u32 0, .int .u32 0, .int .u32 0, .int .u32 0]) ?_ [.int .i64 0, .int .u32 0, .int .u32 0, .int .u32 0, .int .u32 0, .int .u32 0, .int .u32 0, .int .u32 0, .int .u32 0, .int .u32 0, .int .u32 0, .int .u32 0, .int .u32 0, .int .u32 0, .int .u32 0, .int .u32 0, .int .u32 0]
        (repeat (first | with_reducible assumption | (with_reducible refine row_new ?_; first | (with_reducible rfl) | (simp; done)) | with_reducible refine Row.alloc ?_ _ | with_reducible refine Row.drewN ?_ _ | with_reducible refine Row.drew ?_))
      · (repeat (first | exact Below.refl _ _ | assumption | (refine Below.setCell ?_ (by first | exact Nat.le_refl _ | omega | (simp; done) | (simp; omega)) _) | (refine Below.trans ?_ (below_drewN _)) | (refine Below.drew ?_) | (refine Below.alloc ?_ (by first | exact Nat.le_refl _ | omega | (simp; done) | (simp; omega)) _) | (refine below_row ?_ (by first | exact Nat.le_refl _ | omega | (simp; done) | (simp; omega)) _)))
end Go.Proofs.Ytmfpegadcecknaa
