/- Rows of numbers of one's own, in the world; the walk of the document's lesser (larderwickref1). -/
import Derived.Test.YtnjfmlojbaigjaaDoorRowV
import Derived.Test.YtnjfmlojbaigjaaDoorOwnCells
import Derived.Test.YtnjfmlojbaigjaaDoorWithoutS
import Derived.Test.YtnjfmlojbaigjaaDoorKeep
import Derived.Laws.MakeOwn
namespace Go.Proofs.YtnjfmlojbaigjaaDoor
set_option maxRecDepth 100000
open Go.RowKit Go.Sort

set_option maxHeartbeats 400000 in
theorem lesser_any (o : Option Nat) (y : Nat) (w : World) : Calls Tryd.prog 21 #[.int .i64 (vN o), .int .i64 (y : Nat)] w fun e w' => e = .returned (.int .i64 (vN (minO o y))) ∧ w' = w := by
  cases o with
  | none =>
    show Calls _ _ #[.int .i64 (-1), _] _ _
    go_enter Tryd.func21, Tryd.ntmps21
    go_wp2
    go_ret
    exact ⟨rfl, rfl⟩
  | some z =>
    show Calls _ _ #[.int .i64 (z : Int), _] _ _
    by_cases h : y < z
    · have h2 : (y : Int) < (z : Int) := by omega
      have HM : Hid (vN (minO (some z) y) = (y : Int)) := by unfold Hid; show vN (if y < z then some y else some z) = _; rw [if_pos h]; rfl
      clear h
      go_enter Tryd.func21, Tryd.ntmps21
      go_wp2
      go_ret
      exact ⟨by rw [HM.out]; rfl, rfl⟩
    · have h2 : ¬ (y : Int) < (z : Int) := by omega
      have HM : Hid (vN (minO (some z) y) = (z : Int)) := by unfold Hid; show vN (if y < z then some y else some z) = _; rw [if_neg h]; rfl
      clear h
      go_enter Tryd.func21, Tryd.ntmps21
      go_wp2
      go_ret
      exact ⟨by rw [HM.out]; rfl, rfl⟩
theorem OwnI.storedN {w w0 : World} {g n cap : Nat} {l : List Int} (h : OwnI w w0.heap.size (.slice (some ⟨g, 0, none⟩) n cap) l) (hn : l.length = n) (hb : Below w0.heap.size w0 w) (j : Nat) (x : Int) :
    OwnI (w.setCell ⟨g, j, none⟩ (.int .i64 x)) w0.heap.size (.slice (some ⟨g, 0, none⟩) n cap) (l.set j x) ∧ Below w0.heap.size w0 (w.setCell ⟨g, j, none⟩ (.int .i64 x)) ∧ w.grownBy (w.setCell ⟨g, j, none⟩ (.int .i64 x)) (some g) := by
  subst hn
  have h1 := World.ownsRow.stored h j (.int .i64 x)
  refine ⟨?_, ?_, h1.2⟩
  · unfold OwnI
    rw [List.length_set, List.map_set]
    exact h1.1
  · rcases h.2 with ⟨h0, _⟩ | ⟨g', cap', cur, hv, hbg, hg, _⟩
    · simp at h0
    · simp at hv
      obtain ⟨rfl, rfl⟩ := hv
      exact hb.setCell hbg _
/-- A row of numbers of one's own, in block g. -/
structure Own1 (w1 wr : World) (g R : Nat) (T : Nat → Option Nat) : Prop where
  own : OwnI wr w1.heap.size (.slice (some ⟨g, 0, none⟩) R R) (rowR R T)
  below : Below w1.heap.size w1 wr
theorem Own1.cell {w1 wr : World} {g R : Nat} {T : Nat → Option Nat} (h : Own1 w1 wr g R T) {m : Nat} (hm : m < R) : wr.cell? ⟨g, m, none⟩ = some (.int .i64 (vN (T m))) := by
  rw [OwnI.cellN h.own (rowR_length R T) hm, rowR_get T hm]
theorem Own1.soft {w1 wr : World} {g R : Nat} {T : Nat → Option Nat} (h : Own1 w1 wr g R T) (m : Nat) : wr.frozen? ⟨g, m, none⟩ = false := OwnI.softN h.own (rowR_length R T) m
theorem Own1.set {w1 wr : World} {g R : Nat} {T : Nat → Option Nat} (h : Own1 w1 wr g R T) (k : Nat) (o : Option Nat) : Own1 w1 (wr.setCell ⟨g, k, none⟩ (.int .i64 (vN o))) g R (updO T k o) := by
  have R1 := h.own.storedN (rowR_length R T) h.below k (vN o)
  rw [rowR_set] at R1
  exact ⟨R1.1, R1.2.1⟩
theorem Own1.congr {w1 wr : World} {g R : Nat} {T T' : Nat → Option Nat} (h : Own1 w1 wr g R T) (e : ∀ m, m < R → T m = T' m) : Own1 w1 wr g R T' := ⟨by rw [← rowR_congr e]; exact h.own, h.below⟩
theorem Own1.later {w1 wr w2 : World} {g R : Nat} {T : Nat → Option Nat} (h : Own1 w1 wr g R T) (hb : Below wr.heap.size wr w2) : Own1 w1 w2 g R T := ⟨ownI_below h.own hb, h.below.trans (hb.mono h.below.size)⟩
theorem Own1.lt {w1 wr : World} {g R : Nat} {T : Nat → Option Nat} (h : Own1 w1 wr g R T) : g < wr.heap.size := (World.ownsRow.lt h.own g rfl).2
theorem zerosR (w : World) {R : Nat} (hR : R ≤ 3000) : Own1 w (w.alloc (.cells (madeCells #[.int .i64 0] R) 3)) w.heap.size R (fun _ => some 0) := by
  refine ⟨?_, (Below.refl _ _).alloc (Nat.le_refl _) _⟩
  rw [← rowR_zero]
  refine ⟨by rw [List.length_map, Nat.mul_one], .inr ⟨w.heap.size, R, madeCells #[.int .i64 0] R, by rw [List.length_replicate], Nat.le_refl _, heap_alloc_new _ _, by rw [List.length_replicate]; exact Nat.le_refl _, by unfold maxLen; omega, by rw [size_madeCells, Nat.mul_one], ?_⟩⟩
  rw [List.length_replicate, Nat.mul_one, toList_madeCells_one, List.map_replicate, List.take_of_length_le (by rw [List.length_replicate]; exact Nat.le_refl _)]
theorem makeR (w : World) {R : Nat} (hR : R ≤ 3000) : (Instr.makeSlice 22 (.int .i64 (R : Nat)) (.int .i64 (R : Nat))).run Tryd.prog w = .ok (.slice (some ⟨w.heap.size, 0, none⟩) R R) (w.alloc (.cells (madeCells #[.int .i64 0] R) 3)) := by
  obtain ⟨i0, hi, hz0, hz1, hz2⟩ := info_parts Tryd.info3
  have := run_make (P := Tryd.prog) w 22 3 i0 (.int .i64 0) Tryd.underlying22 hi hz0 .i64 .i64 R R (by omega) (Int.le_refl _) (by rw [hz2]; omega) (by omega)
  rw [this, hz1, Int.toNat_natCast, Nat.mul_one]; rfl
end Go.Proofs.YtnjfmlojbaigjaaDoor
