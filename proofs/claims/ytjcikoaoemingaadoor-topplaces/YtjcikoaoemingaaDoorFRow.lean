/- Slices of rows of places (where one begins, and how many: two cells each) that a call has made itself. -/
import Derived.Test.YtjcikoaoemingaaDoorPuts
import Derived.Test.YtjcikoaoemingaaDoorFitL
import Derived.Test.YtjcikoaoemingaaDoorTurn
import Derived.Test.YtjcikoaoemingaaDoorStepS
namespace Go.Proofs.YtjcikoaoemingaaDoor
set_option maxRecDepth 100000
open Go.RowKit Go.Sort

def rowF : List (Nat × Nat) → List Value
  | [] => []
  | x :: l => .int .i64 (x.1 : Nat) :: .int .i64 (x.2 : Nat) :: rowF l
def blkAt (l : List (Nat × Nat)) (j : Nat) : Nat × Nat := l[j]?.getD (0, 0)
theorem blkAt_lt {l : List (Nat × Nat)} {j : Nat} (h : j < l.length) : blkAt l j = l[j] := by unfold blkAt; rw [List.getElem?_eq_getElem h]; rfl
theorem rowF_length : ∀ l : List (Nat × Nat), (rowF l).length = l.length * 2
  | [] => rfl
  | x :: l => by simp [rowF, rowF_length l]; omega
theorem rowF_append : ∀ a b : List (Nat × Nat), rowF (a ++ b) = rowF a ++ rowF b
  | [], b => rfl
  | x :: a, b => by simp [rowF, rowF_append a b]
theorem rowF_take : ∀ (l : List (Nat × Nat)) (i : Nat), rowF (l.take i) = (rowF l).take (i * 2)
  | l, 0 => by simp [rowF]
  | [], i + 1 => by simp [rowF]
  | x :: l, i + 1 => by rw [show (i + 1) * 2 = i * 2 + 1 + 1 by omega]; simp [rowF, rowF_take l i]
theorem rowF_drop : ∀ (l : List (Nat × Nat)) (i : Nat), rowF (l.drop i) = (rowF l).drop (i * 2)
  | l, 0 => by simp
  | [], i + 1 => by simp [rowF]
  | x :: l, i + 1 => by rw [show (i + 1) * 2 = i * 2 + 1 + 1 by omega]; simp [rowF, rowF_drop l i]
theorem rowF_at : ∀ (l : List (Nat × Nat)) (j : Nat), j < l.length → (rowF l)[j * 2]? = some (.int .i64 ((blkAt l j).1 : Nat))
  | x :: l, 0, _ => by simp [rowF, blkAt]
  | x :: l, j + 1, h => by
    have := rowF_at l j (by simpa using h)
    rw [show (j + 1) * 2 = j * 2 + 1 + 1 by omega]
    simpa [rowF, blkAt] using this
theorem rowF_size : ∀ (l : List (Nat × Nat)) (j : Nat), j < l.length → (rowF l)[j * 2 + 1]? = some (.int .i64 ((blkAt l j).2 : Nat))
  | x :: l, 0, _ => by simp [rowF, blkAt]
  | x :: l, j + 1, h => by
    have := rowF_size l j (by simpa using h)
    rw [show (j + 1) * 2 + 1 = j * 2 + 1 + 1 + 1 by omega]
    simpa [rowF, blkAt] using this
theorem rowF_set : ∀ (l : List (Nat × Nat)) (j : Nat) (m : Nat), (rowF l).set (j * 2) (.int .i64 (m : Nat)) = rowF (l.set j (m, (blkAt l j).2))
  | [], j, m => by simp [rowF]
  | x :: l, 0, m => by simp [rowF, blkAt]
  | x :: l, j + 1, m => by
    have := rowF_set l j m
    rw [show (j + 1) * 2 = j * 2 + 1 + 1 by omega]
    simpa [rowF, blkAt] using this
theorem rowF_one : ∀ (l : List (Nat × Nat)), ∀ u ∈ rowF l, u.oneCell' = true
  | [], u, h => by cases h
  | x :: l, u, h => by
    simp only [rowF, List.mem_cons] at h
    rcases h with rfl | rfl | h
    · rfl
    · rfl
    · exact rowF_one l u h

def OwnF (w : World) (base : Nat) (v : Value) (l : List (Nat × Nat)) : Prop := w.ownsRow base 56 2 v l.length (rowF l)
theorem OwnF.nil (w : World) (base : Nat) : OwnF w base (.slice none 0 0) [] := World.ownsRow_nil _ _ _ _
section
variable {w w' : World} {base : Nat} {v : Value} {l : List (Nat × Nat)}
theorem OwnF.form (h : OwnF w base v l) : ∃ ao cap, v = .slice ao l.length cap := by
  rcases h.2 with ⟨rfl, h0⟩ | ⟨g, cap, cur, rfl, _⟩
  · exact ⟨none, 0, by rw [h0]⟩
  · exact ⟨_, cap, rfl⟩
theorem OwnF.block (h : OwnF w base v l) (hl : 0 < l.length) : ∃ g cap, v = .slice (some ⟨g, 0, none⟩) l.length cap ∧ base ≤ g ∧ g < w.heap.size ∧ l.length ≤ cap ∧ cap ≤ maxLen := by
  rcases h.2 with ⟨rfl, h0⟩ | ⟨g, cap, cur, rfl, hb, hg, hn, hm, hs, ht⟩
  · omega
  · exact ⟨g, cap, rfl, hb, (Array.getElem?_eq_some_iff.1 hg).1, hn, hm⟩
theorem OwnF.at_ {g n cap : Nat} (h : OwnF w base (.slice (some ⟨g, 0, none⟩) n cap) l) (hn : n = l.length) {j : Nat} (hj : j < l.length) : w.cell? ⟨g, j * 2, none⟩ = some (.int .i64 ((blkAt l j).1 : Nat)) := by
  subst hn
  rw [World.ownsRow.cellAt h (j * 2) (by omega)]
  exact rowF_at l j hj
theorem OwnF.size {g n cap : Nat} (h : OwnF w base (.slice (some ⟨g, 0, none⟩) n cap) l) (hn : n = l.length) {j : Nat} (hj : j < l.length) : w.cell? ⟨g, j * 2 + 1, none⟩ = some (.int .i64 ((blkAt l j).2 : Nat)) := by
  subst hn
  rw [World.ownsRow.cellAt h (j * 2 + 1) (by omega)]
  exact rowF_size l j hj
theorem OwnF.unfrozen {g n cap : Nat} (h : OwnF w base (.slice (some ⟨g, 0, none⟩) n cap) l) (hn : n = l.length) (j : Nat) : w.frozen? ⟨g, j, none⟩ = false := by
  subst hn
  exact World.ownsRow.frozenAt h j
theorem OwnF.setAt {g n cap : Nat} (h : OwnF w base (.slice (some ⟨g, 0, none⟩) n cap) l) (hn : n = l.length) (j : Nat) (m : Nat) :
    OwnF (w.setCell ⟨g, j * 2, none⟩ (.int .i64 (m : Nat))) base (.slice (some ⟨g, 0, none⟩) n cap) (l.set j (m, (blkAt l j).2)) ∧ w.grownBy (w.setCell ⟨g, j * 2, none⟩ (.int .i64 (m : Nat))) (some g) := by
  subst hn
  have := World.ownsRow.stored h (j * 2) (.int .i64 (m : Nat))
  rw [rowF_set] at this
  refine ⟨?_, this.2⟩
  unfold OwnF
  rw [List.length_set]
  exact this.1
theorem OwnF.kept {row : Option Nat} (h : OwnF w base v l) (hg : w.grownBy w' row) (hne : v.ownBlock = none ∨ v.ownBlock ≠ row) : OwnF w' base v l :=
  World.ownsRow.kept h hg hne
theorem OwnF.later (h : OwnF w base v l) (hb : Below w.heap.size w w') : OwnF w' base v l :=
  h.kept (grown_of_below hb) (by cases v.ownBlock <;> simp)
theorem OwnF.mono {B : Nat} (h : OwnF w base v l) (hB : B ≤ base) : OwnF w B v l := by
  refine ⟨h.1, ?_⟩
  rcases h.2 with h0 | ⟨g, cap, cur, hv, hb, rest⟩
  · exact .inl h0
  · exact .inr ⟨g, cap, cur, hv, Nat.le_trans hB hb, rest⟩
theorem OwnF.rows {w1 : World} {n : Nat} (h : OwnF w base v l) (hn : l.length = n) (hw : w1.heap = w.heap) : w1.ownsRow base 56 2 v n (rowF l) := by
  subst hn
  unfold World.ownsRow
  rw [hw]
  exact h
/-- The first i of them. -/
theorem OwnF.cut {g n cap : Nat} (h : OwnF w base (.slice (some ⟨g, 0, none⟩) n cap) l) {i : Nat} (hi : i ≤ l.length) : w.ownsRow base 56 2 (.slice (some ⟨g, 0, none⟩) i cap) i (rowF (l.take i)) := by
  rcases h.2 with ⟨h0, _⟩ | ⟨g', cap', cur, hv, hb, hg, hn, hmx, hs, ht⟩
  · simp at h0
  · simp at hv
    obtain ⟨rfl, _, rfl⟩ := hv
    refine ⟨by rw [rowF_length]; simp; omega, .inr ⟨g, cap, cur, rfl, hb, hg, by omega, hmx, hs, ?_⟩⟩
    rw [rowF_take, ← ht, List.take_take, Nat.min_eq_left (by omega)]
/-- Its block holds rows of places. -/
theorem OwnF.kind (h : OwnF w base v l) {k : Nat} (hk : v.ownBlock = some k) : base ≤ k ∧ k < w.heap.size ∧ ∃ cur, w.heap[k]? = some (.cells cur 56 (0, 0)) := by
  rcases h.2 with ⟨rfl, h0⟩ | ⟨g, cap, cur, rfl, hb, hg, _⟩
  · cases hk
  · cases hk
    exact ⟨hb, (Array.getElem?_eq_some_iff.1 hg).1, cur, hg⟩
theorem belowF_grown {w0 : World} (h : OwnF w base v l) (hb : Below base w0 w) (h0 : base ≤ w0.heap.size) (hg : w.grownBy w' v.ownBlock) : Below base w0 w' :=
  hb.grown hg (by have := hb.size; omega) fun k hk => (World.ownsRow.lt h k hk).1
theorem ownF_of {n : Nat} {xs : List Value} (h : w.ownsRow base 56 2 v n xs) (hx : xs = rowF l) (hn : n = l.length) : OwnF w base v l := by
  subst hx hn; exact h
end
/-- What an append of one block leaves. -/
theorem own_appendF {w wr w1 : World} {B n : Nat} {v v1 : Value} {l : List (Nat × Nat)} {x y : Nat} {o : Obj} (hO : OwnF wr B v l) (hn : l.length = n) (hb : Below B w wr) (hB : B ≤ w.heap.size)
    (h1 : w1.ownsRow B 56 2 v1 (n + 1) (rowF l ++ [.int .i64 (x : Nat), .int .i64 (y : Nat)])) (h2 : (wr.alloc o).grownBy w1 v.ownBlock) : OwnF w1 B v1 (l ++ [(x, y)]) ∧ Below B w w1 := by
  subst hn
  have hs := hb.size
  refine ⟨?_, (hb.alloc (by omega) o).grown h2 (by simp; omega) fun k hk => (World.ownsRow.lt hO k hk).1⟩
  unfold OwnF
  rw [List.length_append, rowF_append]
  exact h1
theorem Tryd.infoF : (Tryd.prog.info? 56).map (fun i => (i.zero, i.size, i.bytes)) = some (some (.agg #[.int .i64 0, .int .i64 0]), 2, 16) := by kernel_rfl
end Go.Proofs.YtjcikoaoemingaaDoor
