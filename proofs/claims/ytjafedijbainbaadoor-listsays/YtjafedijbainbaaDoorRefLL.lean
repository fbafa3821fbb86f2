/- For the walk of the document's answer (larderwickref1), LeastList: lesser, rows of numbers of one's own. -/
import Derived.Test.YtjafedijbainbaaDoorRefFwd
import Derived.Test.YtjafedijbainbaaDoorRefTabL
import Derived.Test.YtjafedijbainbaaDoorOwnCells
import Derived.Laws.MakeOwn
namespace Go.Proofs.YtjafedijbainbaaDoor
set_option maxRecDepth 100000
open Go.RowKit Go.Sort

set_option maxHeartbeats 400000 in
theorem lesser_any (o : Option Nat) (y : Nat) (w : World) : Calls Tryd.prog 22 #[.int .i64 (vN o), .int .i64 (y : Nat)] w fun e w' => e = .returned (.int .i64 (vN (minO o y))) ∧ w' = w := by
  cases o with
  | none =>
    show Calls _ _ #[.int .i64 (-1), _] _ _
    go_enter Tryd.func22, Tryd.ntmps22
    go_wp2
    go_ret
    exact ⟨rfl, rfl⟩
  | some z =>
    show Calls _ _ #[.int .i64 (z : Int), _] _ _
    by_cases h : y < z
    · have h2 : (y : Int) < (z : Int) := by omega
      have HM : Hid (vN (minO (some z) y) = (y : Int)) := by unfold Hid; show vN (if y < z then some y else some z) = _; rw [if_pos h]; rfl
      clear h
      go_enter Tryd.func22, Tryd.ntmps22
      go_wp2
      go_ret
      exact ⟨by rw [HM.out]; rfl, rfl⟩
    · have h2 : ¬ (y : Int) < (z : Int) := by omega
      have HM : Hid (vN (minO (some z) y) = (z : Int)) := by unfold Hid; show vN (if y < z then some y else some z) = _; rw [if_neg h]; rfl
      clear h
      go_enter Tryd.func22, Tryd.ntmps22
      go_wp2
      go_ret
      exact ⟨by rw [HM.out]; rfl, rfl⟩
theorem OwnI.storedN {w w0 : World} {g n cap : Nat} {l : List Int} (h : OwnI w w0.heap.size (.slice (some ⟨g, 0, none⟩) n cap) l) (hn : l.length = n) (hb : Below w0.heap.size w0 w) (j : Nat) (x : Int) :
    OwnI (w.setCell ⟨g, j, none⟩ (.int .i64 x)) w0.heap.size (.slice (some ⟨g, 0, none⟩) n cap) (l.set j x) ∧ Below w0.heap.size w0 (w.setCell ⟨g, j, none⟩ (.int .i64 x)) ∧ w.grownBy (w.setCell ⟨g, j, none⟩ (.int .i64 x)) (some g) := by
  subst hn
  have h1 := World.ownsRow.stored h j (.int .i64 x)
  refine ⟨?_, ?_, h1.2⟩
  · unfold OwnI
    rw [List.length_set, List.map_set]
    exact h1.1
  · rcases h.2 with ⟨h0, _⟩ | ⟨g', cap', cur, hv, hbg, hg, _⟩
    · simp at h0
    · simp at hv
      obtain ⟨rfl, rfl⟩ := hv
      exact hb.setCell hbg _
/-- A row of numbers of one's own, in block g. -/
structure Own1 (w1 wr : World) (g R : Nat) (T : Nat → Option Nat) : Prop where
  own : OwnI wr w1.heap.size (.slice (some ⟨g, 0, none⟩) R R) (rowR R T)
  below : Below w1.heap.size w1 wr
theorem Own1.cell {w1 wr : World} {g R : Nat} {T : Nat → Option Nat} (h : Own1 w1 wr g R T) {m : Nat} (hm : m < R) : wr.cell? ⟨g, m, none⟩ = some (.int .i64 (vN (T m))) := by
  rw [OwnI.cellN h.own (rowR_length R T) hm, rowR_get T hm]
theorem Own1.soft {w1 wr : World} {g R : Nat} {T : Nat → Option Nat} (h : Own1 w1 wr g R T) (m : Nat) : wr.frozen? ⟨g, m, none⟩ = false := OwnI.softN h.own (rowR_length R T) m
theorem Own1.set {w1 wr : World} {g R : Nat} {T : Nat → Option Nat} (h : Own1 w1 wr g R T) (k : Nat) (o : Option Nat) : Own1 w1 (wr.setCell ⟨g, k, none⟩ (.int .i64 (vN o))) g R (updO T k o) := by
  have R1 := h.own.storedN (rowR_length R T) h.below k (vN o)
  rw [rowR_set] at R1
  exact ⟨R1.1, R1.2.1⟩
theorem Own1.congr {w1 wr : World} {g R : Nat} {T T' : Nat → Option Nat} (h : Own1 w1 wr g R T) (e : ∀ m, m < R → T m = T' m) : Own1 w1 wr g R T' := ⟨by rw [← rowR_congr e]; exact h.own, h.below⟩
theorem Own1.later {w1 wr w2 : World} {g R : Nat} {T : Nat → Option Nat} (h : Own1 w1 wr g R T) (hb : Below wr.heap.size wr w2) : Own1 w1 w2 g R T := ⟨ownI_below h.own hb, h.below.trans (hb.mono h.below.size)⟩
theorem Own1.lt {w1 wr : World} {g R : Nat} {T : Nat → Option Nat} (h : Own1 w1 wr g R T) : g < wr.heap.size := (World.ownsRow.lt h.own g rfl).2
theorem zerosR (w : World) {R : Nat} (hR : R ≤ 1000) : Own1 w (w.alloc (.cells (madeCells #[.int .i64 0] R) 3)) w.heap.size R (fun _ => some 0) := by
  refine ⟨?_, (Below.refl _ _).alloc (Nat.le_refl _) _⟩
  rw [← rowR_zero]
  refine ⟨by rw [List.length_map, Nat.mul_one], .inr ⟨w.heap.size, R, madeCells #[.int .i64 0] R, by rw [List.length_replicate], Nat.le_refl _, heap_alloc_new _ _, by rw [List.length_replicate]; exact Nat.le_refl _, by unfold maxLen; omega, by rw [size_madeCells, Nat.mul_one], ?_⟩⟩
  rw [List.length_replicate, Nat.mul_one, toList_madeCells_one, List.map_replicate, List.take_of_length_le (by rw [List.length_replicate]; exact Nat.le_refl _)]
theorem makeR (w : World) {R : Nat} (hR : R ≤ 1000) : (Instr.makeSlice 22 (.int .i64 (R : Nat)) (.int .i64 (R : Nat))).run Tryd.prog w = .ok (.slice (some ⟨w.heap.size, 0, none⟩) R R) (w.alloc (.cells (madeCells #[.int .i64 0] R) 3)) := by
  obtain ⟨i0, hi, hz0, hz1, hz2⟩ := info_parts Tryd.info3
  have := run_make (P := Tryd.prog) w 22 3 i0 (.int .i64 0) Tryd.underlying22 hi hz0 .i64 .i64 R R (by omega) (Int.le_refl _) (by rw [hz2]; omega) (by omega)
  rw [this, hz1, Int.toNat_natCast, Nat.mul_one]; rfl
/-- Two rows of numbers of one's own. -/
structure Two (w1 wr : World) (gm gt R : Nat) (M T : Nat → Option Nat) : Prop where
  m : Own1 w1 wr gm R M
  t : Own1 w1 wr gt R T
  ne : gm ≠ gt
theorem Two.setM {w1 wr : World} {gm gt R : Nat} {M T : Nat → Option Nat} (h : Two w1 wr gm gt R M T) (k : Nat) (o : Option Nat) : Two w1 (wr.setCell ⟨gm, k, none⟩ (.int .i64 (vN o))) gm gt R (updO M k o) T := by
  have R1 := h.m.own.storedN (rowR_length R M) h.m.below k (vN o)
  exact ⟨h.m.set k o, ⟨h.t.own.kept R1.2.2 (.inr fun e => h.ne (by simp [Value.ownBlock] at e; exact e.symm)), R1.2.1⟩, h.ne⟩
theorem Two.setT {w1 wr : World} {gm gt R : Nat} {M T : Nat → Option Nat} (h : Two w1 wr gm gt R M T) (k : Nat) (o : Option Nat) : Two w1 (wr.setCell ⟨gt, k, none⟩ (.int .i64 (vN o))) gm gt R M (updO T k o) := by
  have R1 := h.t.own.storedN (rowR_length R T) h.t.below k (vN o)
  exact ⟨⟨h.m.own.kept R1.2.2 (.inr fun e => h.ne (by simp [Value.ownBlock] at e; exact e)), R1.2.1⟩, h.t.set k o, h.ne⟩
theorem Two.later {w1 wr w2 : World} {gm gt R : Nat} {M T : Nat → Option Nat} (h : Two w1 wr gm gt R M T) (hb : Below wr.heap.size wr w2) : Two w1 w2 gm gt R M T := ⟨h.m.later hb, h.t.later hb, h.ne⟩
theorem Two.congr {w1 wr : World} {gm gt R : Nat} {M T M' T' : Nat → Option Nat} (h : Two w1 wr gm gt R M T) (e1 : ∀ m, m < R → M m = M' m) (e2 : ∀ m, m < R → T m = T' m) : Two w1 wr gm gt R M' T' := ⟨h.m.congr e1, h.t.congr e2, h.ne⟩
theorem twoNew (w : World) {R : Nat} (hR : R ≤ 1000) : Two w ((w.alloc (.cells (madeCells #[.int .i64 0] R) 3)).alloc (.cells (madeCells #[.int .i64 0] R) 3)) w.heap.size (w.heap.size + 1) R (fun _ => some 0) (fun _ => some 0) := by
  have h1 := zerosR w hR
  have h2 := zerosR (w.alloc (.cells (madeCells #[.int .i64 0] R) 3)) hR
  have hs : (w.alloc (.cells (madeCells #[.int .i64 0] R) 3)).heap.size = w.heap.size + 1 := by simp
  refine ⟨h1.later h2.below, ⟨ownI_mono (by rw [← hs]; exact h2.own) h1.below.size, (h1.later h2.below).below⟩, by omega⟩
/-- Rows that lie there. -/
def RowsIn (wr : World) (g : Nat) (L : List (List Int)) : Prop := ∀ k, k < L.length → ∃ u, wr.cell? ⟨g, k, none⟩ = some u ∧ IsInts wr u (rowAt L k)
theorem RowsIn.later {wr w2 : World} {g : Nat} {L : List (List Int)} (h : RowsIn wr g L) (hb : Below wr.heap.size wr w2) : RowsIn w2 g L := fun k hk => by
  obtain ⟨u, hu, hi⟩ := h k hk
  exact ⟨u, (hb.cell (p := ⟨g, k, none⟩) (World.block_lt_of_cell? wr _ hu)).trans hu, hi.below hb⟩
def zeroTo (n : Nat) (m : Nat) : Option Nat := if swp (rowAt (rowsL n) m) (Un n) n = 0 then some 0 else none
def initTo (n k : Nat) : Nat → Option Nat := fun m => if m < k then zeroTo n m else some 0
theorem initTo_succ {n k R : Nat} {o : Option Nat} (h : o = zeroTo n k) : ∀ m, m < R → updO (updO (initTo n k) k none) k o m = initTo n (k+1) m := fun m _ => by
  unfold updO initTo
  by_cases e : m = k
  · subst e; rw [if_pos rfl, if_pos (by omega), h]
  · rw [if_neg e, if_neg e]
    by_cases e2 : m < k
    · rw [if_pos e2, if_pos (by omega)]
    · rw [if_neg e2, if_neg (by omega)]
theorem initTo_none {n k R : Nat} (h : zeroTo n k = none) : ∀ m, m < R → updO (initTo n k) k none m = initTo n (k+1) m := fun m _ => by
  unfold updO initTo
  by_cases e : m = k
  · subst e; rw [if_pos rfl, if_pos (by omega), h]
  · rw [if_neg e]
    by_cases e2 : m < k
    · rw [if_pos e2, if_pos (by omega)]
    · rw [if_neg e2, if_neg (by omega)]
theorem initTo_all {n : Nat} : ∀ m, m < (rowsL n).length → initTo n (rowsL n).length m = if swp (rowAt (rowsL n) m) (Un n) n = 0 then some 0 else none := fun m hm => by
  unfold initTo zeroTo
  rw [if_pos hm]
def midTo (n : Nat) (N : Nat → Option Nat) (R k : Nat) : Nat → Option Nat := fun m => if m < k then lowN (midG n N m) R else some 0
def thenTo (k : Nat) : Nat → Option Nat := fun m => if m < k then none else some 0
theorem thenTo_succ {k R : Nat} : ∀ m, m < R → updO (thenTo k) k none m = thenTo (k+1) m := fun m _ => by
  unfold updO thenTo
  by_cases e : m = k
  · subst e; rw [if_pos rfl, if_pos (by omega)]
  · rw [if_neg e]
    by_cases e2 : m < k
    · rw [if_pos e2, if_pos (by omega)]
    · rw [if_neg e2, if_neg (by omega)]
theorem updO_twice {T : Nat → Option Nat} {k R : Nat} {o o2 : Option Nat} : ∀ m, m < R → updO (updO T k o) k o2 m = updO T k o2 m := fun m _ => by
  unfold updO
  by_cases e : m = k
  · subst e; rw [if_pos rfl, if_pos rfl]
  · rw [if_neg e, if_neg e, if_neg e]
theorem updO_at {T : Nat → Option Nat} {k : Nat} {o : Option Nat} : updO T k o k = o := by unfold updO; rw [if_pos rfl]
theorem midTo_succ {n : Nat} {N : Nat → Option Nat} {R k : Nat} : ∀ m, m < R → updO (midTo n N R k) k (lowN (midG n N k) R) m = midTo n N R (k+1) m := fun m _ => by
  unfold updO midTo
  by_cases e : m = k
  · subst e; rw [if_pos rfl, if_pos (by omega)]
  · rw [if_neg e]
    by_cases e2 : m < k
    · rw [if_pos e2, if_pos (by omega)]
    · rw [if_neg e2, if_neg (by omega)]
def thenT (n : Nat) (x : Int) (M : Nat → Nat) (R k : Nat) : Nat → Option Nat := fun m => if m < k then lowN (fwG n x M m) R else none
theorem thenT_succ {n : Nat} {x : Int} {M : Nat → Nat} {R k : Nat} : ∀ m, m < R → updO (thenT n x M R k) k (lowN (fwG n x M k) R) m = thenT n x M R (k+1) m := fun m _ => by
  unfold updO thenT
  by_cases e : m = k
  · subst e; rw [if_pos rfl, if_pos (by omega)]
  · rw [if_neg e]
    by_cases e2 : m < k
    · rw [if_pos e2, if_pos (by omega)]
    · rw [if_neg e2, if_neg (by omega)]
theorem thenT_none {n : Nat} {x : Int} {M : Nat → Nat} {R k : Nat} : ∀ m, m < R → thenT n x M R k m = updO (thenT n x M R k) k (lowN (fwG n x M k) 0) m := fun m _ => by
  unfold updO
  by_cases e : m = k
  · subst e; rw [if_pos rfl]; unfold thenT; rw [if_neg (by omega)]; rfl
  · rw [if_neg e]
theorem mid_bound {n : Nat} (h4 : n ≤ 4) {N : Nat → Option Nat} {R : Nat} (hN : ∀ j x, j < R → N j = some x → x ≤ 800) {k x : Nat} (h : lowN (midG n N k) R = some x) : x ≤ 820 := by
  obtain ⟨m, hm, hg⟩ := (lowN_facts _ _).1 x h
  unfold midG at hg
  obtain ⟨y, hy, hyx⟩ := Option.map_eq_some_iff.1 hg
  have h1 := hN m y hm hy
  have h2 : swp (rowAt (rowsL n) m) (rowAt (rowsL n) k) n ≤ 16 := Nat.le_trans (swp_le _ _ n) (Nat.mul_le_mul h4 h4)
  have h3 : y + swp (rowAt (rowsL n) m) (rowAt (rowsL n) k) n = x := hyx
  omega
theorem swp_most {n : Nat} {A B : List Int} (h : n ≤ 4) : swp A B n ≤ 16 := Nat.le_trans (swp_le A B n) (Nat.mul_le_mul h h)
end Go.Proofs.YtjafedijbainbaaDoor
