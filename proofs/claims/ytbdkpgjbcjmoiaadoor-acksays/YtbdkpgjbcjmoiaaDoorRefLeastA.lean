/- The walk of the document's answer (larderwickref1) for chapter 13: LeastAcks. -/
import Derived.Test.YtbdkpgjbcjmoiaaDoorRefMsg
import Derived.Test.YtbdkpgjbcjmoiaaDoorAckT
import Derived.Test.YtbdkpgjbcjmoiaaDoorAckTwiceL
import Derived.Test.YtbdkpgjbcjmoiaaDoorOwnCells
import Derived.Test.YtbdkpgjbcjmoiaaDoorPart
import Derived.Test.YtbdkpgjbcjmoiaaDoorQuietLast
import Derived.Laws.MakeOwn
namespace Go.Proofs.YtbdkpgjbcjmoiaaDoor
set_option maxRecDepth 100000
open Go.RowKit Go.Sort

/-- A row of numbers, by a function. -/
def rowF (R : Nat) (f : Nat → Int) : List Int := (List.range R).map f
theorem rowF_length (R : Nat) (f : Nat → Int) : (rowF R f).length = R := by unfold rowF; rw [List.length_map, List.length_range]
theorem rowF_get {R : Nat} (f : Nat → Int) {m : Nat} (h : m < R) : (rowF R f)[m]?.getD 0 = f m := by
  unfold rowF
  rw [List.getElem?_map, List.getElem?_range h]; rfl
def updF (f : Nat → Int) (k : Nat) (x : Int) : Nat → Int := fun m => if m = k then x else f m
theorem rowF_set (R : Nat) (f : Nat → Int) (k : Nat) (x : Int) : (rowF R f).set k x = rowF R (updF f k x) := by
  refine List.ext_getElem? fun m => ?_
  unfold rowF
  rw [List.getElem?_set]
  by_cases hm : m < R
  · rw [List.getElem?_map, List.getElem?_map, List.getElem?_range hm]
    by_cases e : k = m
    · subst e
      rw [if_pos rfl, if_pos (by rw [List.length_map, List.length_range]; exact hm)]
      simp [updF]
    · rw [if_neg e]
      have : m ≠ k := fun h => e h.symm
      simp [updF, this]
  · have h0 : ∀ g : Nat → Int, ((List.range R).map g)[m]? = none := fun g => List.getElem?_eq_none (by rw [List.length_map, List.length_range]; omega)
    rw [h0, h0]
    by_cases e : k = m
    · subst e
      rw [if_pos rfl, if_neg (by rw [List.length_map, List.length_range]; exact hm)]
    · rw [if_neg e]
theorem updF_updF (f : Nat → Int) (k : Nat) (x y : Int) : updF (updF f k x) k y = updF f k y := by
  funext m
  unfold updF
  split <;> rfl
theorem updF_at (f : Nat → Int) (k : Nat) (x : Int) : updF f k x k = x := by unfold updF; rw [if_pos rfl]
theorem updF_other (f : Nat → Int) {k m : Nat} (x : Int) (h : m ≠ k) : updF f k x m = f m := by unfold updF; rw [if_neg h]
/-- A row of numbers of one's own, in block g. -/
structure OwnF (w1 wr : World) (g R : Nat) (f : Nat → Int) : Prop where
  own : OwnI wr w1.heap.size (.slice (some ⟨g, 0, none⟩) R R) (rowF R f)
  below : Below w1.heap.size w1 wr
theorem OwnF.cell {w1 wr : World} {g R : Nat} {f : Nat → Int} (h : OwnF w1 wr g R f) {m : Nat} (hm : m < R) : wr.cell? ⟨g, m, none⟩ = some (.int .i64 (f m)) := by
  rw [OwnI.cellN h.own (rowF_length R f) hm, rowF_get f hm]
theorem OwnF.soft {w1 wr : World} {g R : Nat} {f : Nat → Int} (h : OwnF w1 wr g R f) (m : Nat) : wr.frozen? ⟨g, m, none⟩ = false := OwnI.softN h.own (rowF_length R f) m
theorem OwnF.set {w1 wr : World} {g R : Nat} {f : Nat → Int} (h : OwnF w1 wr g R f) (k : Nat) (x : Int) : OwnF w1 (wr.setCell ⟨g, k, none⟩ (.int .i64 x)) g R (updF f k x) := by
  have h0 := h.own
  have hb := h.below
  have hl := rowF_length R f
  rw [show (Value.slice (some ⟨g, 0, none⟩) R R) = .slice (some ⟨g, 0, none⟩) (rowF R f).length R by rw [hl]] at h0
  have h1 := World.ownsRow.stored h0 k (.int .i64 x)
  refine ⟨?_, ?_⟩
  · rw [← rowF_set]
    unfold OwnI
    rw [List.length_set, List.map_set]
    have := h1.1
    rw [hl] at this ⊢
    exact this
  · rcases h0.2 with ⟨h2, _⟩ | ⟨g', cap', cur, hv, hbg, hg, _⟩
    · simp at h2
    · simp at hv
      obtain ⟨rfl, rfl⟩ := hv
      exact hb.setCell hbg _
theorem OwnF.drewN {w1 wr : World} {g R : Nat} {f : Nat → Int} (h : OwnF w1 wr g R f) (n : Nat) : OwnF w1 (wr.drewN n) g R f := ⟨h.own, below_drewN h.below n⟩
theorem OwnF.lt {w1 wr : World} {g R : Nat} {f : Nat → Int} (h : OwnF w1 wr g R f) : w1.heap.size ≤ g := (World.ownsRow.lt h.own g rfl).1
theorem zerosF (w : World) {R : Nat} (hR : R ≤ 1000) : OwnF w (w.alloc (.cells (madeCells #[.int .i64 0] R) 3)) w.heap.size R (fun _ => 0) := by
  refine ⟨?_, (Below.refl _ _).alloc (Nat.le_refl _) _⟩
  have e : rowF R (fun _ => 0) = List.replicate R 0 := by
    unfold rowF
    rw [List.eq_replicate_iff]
    exact ⟨by rw [List.length_map, List.length_range], fun b hb => by obtain ⟨_, _, h⟩ := List.mem_map.1 hb; exact h.symm⟩
  rw [e]
  refine ⟨by rw [List.length_map, Nat.mul_one], .inr ⟨w.heap.size, R, madeCells #[.int .i64 0] R, by rw [List.length_replicate], Nat.le_refl _, heap_alloc_new _ _, by rw [List.length_replicate]; exact Nat.le_refl _, by unfold maxLen; omega, by rw [size_madeCells, Nat.mul_one], ?_⟩⟩
  rw [List.length_replicate, Nat.mul_one, toList_madeCells_one, List.map_replicate, List.take_of_length_le (by rw [List.length_replicate]; exact Nat.le_refl _)]
theorem makeF (w : World) {R : Nat} (hR : R ≤ 1000) : (Instr.makeSlice 22 (.int .i64 (R : Nat)) (.int .i64 (R : Nat))).run Tryd.prog w = .ok (.slice (some ⟨w.heap.size, 0, none⟩) R R) (w.alloc (.cells (madeCells #[.int .i64 0] R) 3)) := by
  obtain ⟨i0, hi, hz0, hz1, hz2⟩ := info_parts Tryd.info3
  have := run_make (P := Tryd.prog) w 22 3 i0 (.int .i64 0) Tryd.underlying22 hi hz0 .i64 .i64 R R (by omega) (Int.le_refl _) (by rw [hz2]; omega) (by omega)
  rw [this, hz1, Int.toNat_natCast, Nat.mul_one]; rfl

/-- What it costs to tell of messages i to j together, and of the rest. -/
def stepC (p : Int) (l : List Int) (f : Nat → Int) (i j : Nat) : Int := p + late (seg l i (j+1)) (l[j]?.getD 0) + f (j+1)
/-- The least of these, ahead of j; -1 where there is none. -/
def Least1 (p : Int) (l : List Int) (f : Nat → Int) (i j : Nat) (x : Int) : Prop := (j = i ∧ x = -1) ∨ (i < j ∧ (∃ m, i ≤ m ∧ m < j ∧ x = stepC p l f i m) ∧ ∀ m, i ≤ m → m < j → x ≤ stepC p l f i m)
theorem least1_succ {p : Int} {l : List Int} {f : Nat → Int} {i j : Nat} {x : Int} (hij : i ≤ j) (h0 : ∀ m, i ≤ m → m ≤ j → 0 ≤ stepC p l f i m) (h : Least1 p l f i j x) : Least1 p l f i (j+1) (lsr x (stepC p l f i j)) := by
  refine .inr ⟨by omega, ?_⟩
  rcases h with ⟨rfl, rfl⟩ | ⟨hlt, ⟨m, h1, h2, h3⟩, hall⟩
  · unfold lsr
    rw [if_pos (.inl (by omega))]
    refine ⟨⟨j, Nat.le_refl _, by omega, rfl⟩, fun m h1 h2 => ?_⟩
    have : m = j := by omega
    subst this
    exact Int.le_refl _
  · have hx : 0 ≤ x := by rw [h3]; exact h0 m h1 (by omega)
    unfold lsr
    by_cases hc : stepC p l f i j < x
    · rw [if_pos (.inr hc)]
      refine ⟨⟨j, hij, by omega, rfl⟩, fun k k1 k2 => ?_⟩
      by_cases e : k = j
      · subst e; exact Int.le_refl _
      · have := hall k k1 (by omega); omega
    · rw [if_neg (by omega)]
      refine ⟨⟨m, h1, by omega, h3⟩, fun k k1 k2 => ?_⟩
      by_cases e : k = j
      · subst e; omega
      · exact hall k k1 (by omega)
theorem least1_end {p : Int} {l : List Int} (hr : rising l) {f : Nat → Int} {i : Nat} (hi : i < l.length) (hf : ∀ k, i < k → k ≤ l.length → LeastTell p (l.drop k) (f k)) {x : Int} (h : Least1 p l f i l.length x) : LeastTell p (l.drop i) x := by
  rcases h with ⟨e, _⟩ | ⟨_, ⟨m, h1, h2, h3⟩, hall⟩
  · omega
  have hC : ∀ k, k < (l.drop i).length → p + late ((l.drop i).take (k+1)) ((l.drop i)[k]?.getD 0) + f (i+k+1) = stepC p l f i (i+k) := fun k hk => by
    unfold stepC seg
    rw [List.getElem?_drop, show i + k + 1 - i = k + 1 by omega]
  refine leastTell_step (hr.sublist (List.drop_sublist _ _)) (fun e => by have := congrArg List.length e; rw [List.length_drop, List.length_nil] at this; omega) (b := fun k => f (i+k+1)) (fun k hk => ?_) ?_ (fun k hk => ?_)
  · rw [List.length_drop] at hk
    rw [List.drop_drop]
    exact hf _ (by omega) (by omega)
  · refine ⟨m - i, by rw [List.length_drop]; omega, ?_⟩
    have := hC (m - i) (by rw [List.length_drop]; omega)
    rw [show i + (m - i) = m by omega] at this
    rw [show i + (m - i) = m by omega, this]; exact h3
  · rw [hC k hk]
    rw [List.length_drop] at hk
    exact hall _ (by omega) (by omega)
theorem tells_nonneg {p : Int} (hp : 0 ≤ p) {ts : List Int} {y : Int} (h : Tells p ts y) : 0 ≤ y := by
  induction h with
  | done => exact Int.le_refl _
  | @tell A B e y _ _ _ _ ih =>
    have := late_nonneg A e
    omega
theorem leastTell_bound {p : Int} {l : List Int} (hf : FineA l p) {k : Nat} {x : Int} (h : LeastTell p (l.drop k) x) : 0 ≤ x ∧ x ≤ 800 := by
  have hp := hf.price
  have hd : FineA (l.drop k) p := ⟨by rw [List.length_drop]; have := hf.many; omega, fun y hy => hf.times y (List.mem_of_mem_drop hy), hf.price, hf.rise.sublist (List.drop_sublist _ _)⟩
  have h1 := (least_run (show 0 ≤ p by omega) hd.rise h).1
  have h2 := tc_most hd
  exact ⟨tells_nonneg (by omega) h.some, by omega⟩
theorem step_bound {p : Int} {l : List Int} (hf : FineA l p) {f : Nat → Int} {i j : Nat} (hij : i ≤ j) (hj : j < l.length) (h : LeastTell p (l.drop (j+1)) (f (j+1))) : 0 ≤ stepC p l f i j ∧ stepC p l f i j ≤ 90000 := by
  have hp := hf.price
  have h1 := leastTell_bound hf h
  have h2 := late_nonneg (seg l i (j+1)) (l[j]?.getD 0)
  have h3 : l[j]?.getD 0 ≤ 1000 := by rw [List.getElem?_eq_getElem hj]; exact (hf.times _ (List.getElem_mem hj)).2
  have h4 := late_le (l := seg l i (j+1)) (a := l[j]?.getD 0) (m := 4000) (by omega) fun x hx => by
    have : x ∈ l := List.mem_of_mem_drop (List.mem_of_mem_take hx)
    have := hf.times x this; omega
  have h5 : (seg l i (j+1)).length ≤ 20 := by
    rw [seg_length (by omega) (by omega)]
    have := hf.many; omega
  unfold stepC
  omega
end Go.Proofs.YtbdkpgjbcjmoiaaDoor
