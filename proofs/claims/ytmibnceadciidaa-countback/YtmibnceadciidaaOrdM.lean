/- The order in which nodes are marked, in a box of its own: plain lemmas on worlds. -/
import Derived.Test.YtmibnceadciidaaHeapI
namespace Go.Proofs.Ytmibnceadciidaa
set_option maxRecDepth 100000
open Go.RowKit Go.Sort

/-- In the box bo lies a row of numbers of one's own, in blocks from B on. -/
structure Ord (w : World) (B bo : Nat) (A : List Int) (vo : Value) : Prop where
  box : w.heap[bo]? = some (.cells #[vo] 26 (0, 0))
  own : OwnI w B vo A
  lt : bo < B
  le : B ≤ w.heap.size
/-- What marking turns: the box, and the row. -/
structure Marks (bo : Nat) (vo vo' : Value) (w w' : World) : Prop where
  os : w'.os = w.os
  tape : w'.tape = w.tape
  output : w'.output = w.output
  size : w.heap.size ≤ w'.heap.size
  block : ∀ k, k < w.heap.size → k ≠ bo → vo.ownBlock ≠ some k → w'.heap[k]? = w.heap[k]?
  fresh : ∀ k, k < w.heap.size → vo.ownBlock ≠ some k → vo'.ownBlock ≠ some k
/-- Of the blocks below B the box alone is turned. -/
structure But (B bo : Nat) (w w' : World) : Prop where
  os : w'.os = w.os
  tape : w'.tape = w.tape
  output : w'.output = w.output
  size : w.heap.size ≤ w'.heap.size
  block : ∀ k, k < B → k ≠ bo → w'.heap[k]? = w.heap[k]?
section
variable {B bo : Nat} {A : List Int} {vo vo' vo'' : Value} {w w1 w2 : World}
theorem But.refl (B bo : Nat) (w : World) : But B bo w w := ⟨rfl, rfl, rfl, Nat.le_refl _, fun _ _ _ => rfl⟩
theorem But.trans (h : But B bo w w1) (k : But B bo w1 w2) : But B bo w w2 :=
  ⟨k.os.trans h.os, k.tape.trans h.tape, k.output.trans h.output, Nat.le_trans h.size k.size, fun i h1 h2 => (k.block i h1 h2).trans (h.block i h1 h2)⟩
theorem But.below (h : But B bo w w1) (hl : bo ≤ B) : Below bo w w1 := ⟨h.os, h.tape, h.output, h.size, fun i hi => h.block i (by omega) (by omega)⟩
theorem But.cell (h : But B bo w w1) {p : Addr} (hp : p.block < B) (hn : p.block ≠ bo) : w1.cell? p = w.cell? p := World.cell?_of_block (h.block _ hp hn)
theorem But.drewN (B bo : Nat) (w : World) (n : Nat) : But B bo w (w.drewN n) := ⟨rfl, rfl, rfl, Nat.le_refl _, fun _ _ _ => rfl⟩
theorem But.later (h : Below w.heap.size w w1) (hB : B ≤ w.heap.size) : But B bo w w1 := ⟨h.os, h.tape, h.output, h.size, fun i hi _ => h.block i (by omega)⟩
theorem But.grown {o : Obj} {row : Option Nat} (h : (w.alloc o).grownBy w1 row) (hB : B ≤ w.heap.size) (hr : ∀ k, row = some k → B ≤ k) : But B bo w w1 :=
  ⟨h.os, h.tape, h.output, by have := h.size; simp at this; omega, fun i hi _ => by
    rw [h.block i (by simp; omega) (fun e => by have := hr i e.symm; omega), heap_alloc_old _ _ (by omega)]⟩
theorem But.set (B bo j : Nat) (w : World) (u : Value) : But B bo w (w.setCell ⟨bo, j, none⟩ u) := ⟨rfl, rfl, rfl, by simp [World.setCell], fun i _ hn => heap_setCell_other w ⟨bo, j, none⟩ i u (fun e => hn e)⟩
theorem Marks.refl (bo : Nat) (vo : Value) (w : World) : Marks bo vo vo w w := ⟨rfl, rfl, rfl, Nat.le_refl _, fun _ _ _ _ => rfl, fun _ _ h => h⟩
theorem Marks.but (h : Marks bo vo vo' w w1) (ho : Ord w B bo A vo) : But B bo w w1 :=
  ⟨h.os, h.tape, h.output, h.size, fun i hi hn => h.block i (Nat.lt_of_lt_of_le hi ho.le) hn fun e => by have := World.ownsRow.lt ho.own i e; omega⟩
theorem Ord.cell (h : Ord w B bo A vo) : w.cell? ⟨bo, 0, none⟩ = some vo := by simp [World.cell?, h.box]
theorem Ord.soft (h : Ord w B bo A vo) : w.frozen? ⟨bo, 0, none⟩ = false := by simp [World.frozen?, h.box]
theorem Ord.form (h : Ord w B bo A vo) : ∃ ao cap, vo = .slice ao A.length cap := OwnI.form h.own
theorem Ord.drewN (h : Ord w B bo A vo) (n : Nat) : Ord (w.drewN n) B bo A vo := ⟨h.box, h.own, h.lt, h.le⟩
theorem Ord.alloc (h : Ord w B bo A vo) (o : Obj) : Ord (w.alloc o) B bo A vo :=
  ⟨by rw [heap_alloc_old _ _ (Nat.lt_of_lt_of_le h.lt h.le)]; exact h.box, World.ownsRow.alloc h.own o, h.lt, by have := h.le; simp; omega⟩
theorem Ord.later (h : Ord w B bo A vo) (hb : Below w.heap.size w w1) : Ord w1 B bo A vo :=
  ⟨by rw [hb.block bo (Nat.lt_of_lt_of_le h.lt h.le)]; exact h.box, h.own.later hb, h.lt, Nat.le_trans h.le hb.size⟩
/-- What turns another block leaves it. -/
theorem Ord.other (h : Ord w B bo A vo) {row : Option Nat} (hg : w.grownBy w1 row) (h1 : row ≠ some bo) (h2 : vo.ownBlock = none ∨ vo.ownBlock ≠ row) : Ord w1 B bo A vo :=
  ⟨by rw [hg.block bo (Nat.lt_of_lt_of_le h.lt h.le) (Ne.symm h1)]; exact h.box, OwnI.kept h.own hg h2, h.lt, Nat.le_trans h.le hg.size⟩
/-- At the beginning. -/
theorem ord_start (w : World) (o : Obj) : Ord ((w.alloc (.cells #[.slice none 0 0] 26)).alloc o) (w.heap.size + 1 + 1) w.heap.size [] (.slice none 0 0) :=
  ⟨by rw [heap_alloc_old _ _ (by simp), heap_alloc_new], OwnI.nil _ _, by omega, by simp⟩
theorem Ord.raise (h : Ord w B bo [] (.slice none 0 0)) {B' : Nat} (h1 : B ≤ B') (h2 : B' ≤ w.heap.size) : Ord w B' bo [] (.slice none 0 0) := ⟨h.box, OwnI.nil _ _, Nat.lt_of_lt_of_le h.lt h1, h2⟩
theorem Ord.notbox (h : Ord w B bo A vo) : vo.ownBlock ≠ some bo := fun e => by have := World.ownsRow.lt h.own bo e; have := h.lt; omega
theorem Ord.appended_heap (h : Ord w B bo A vo) {o : Obj} (hg : (w.alloc o).grownBy w1 vo.ownBlock) : w1.heap[bo]? = some (.cells #[vo] 26 (0, 0)) := by
  have ha := h.alloc o
  rw [hg.block bo (Nat.lt_of_lt_of_le ha.lt ha.le) (Ne.symm h.notbox)]; exact ha.box
theorem Ord.appended_box (h : Ord w B bo A vo) {o : Obj} (hg : (w.alloc o).grownBy w1 vo.ownBlock) : w1.cell? ⟨bo, 0, none⟩ = some vo := by simp [World.cell?, h.appended_heap hg]
theorem Ord.appended_soft (h : Ord w B bo A vo) {o : Obj} (hg : (w.alloc o).grownBy w1 vo.ownBlock) : w1.frozen? ⟨bo, 0, none⟩ = false := by simp [World.frozen?, h.appended_heap hg]
theorem Ord.appended (h : Ord w B bo A vo) {o : Obj} (hg : (w.alloc o).grownBy w1 vo.ownBlock) {g j : Nat} {u : Value} (hc : w.cell? ⟨g, j, none⟩ = some u) (_ : g ≠ bo) (hB : g < B) : w1.cell? ⟨g, j, none⟩ = some u :=
  hg.cell (Lib.cell?_alloc_some _ hc) fun e => by have := World.ownsRow.lt h.own g e.symm; omega
/-- An append of one number, and the box filled. -/
theorem Ord.put {o : Obj} {p : Int} (h : Ord w B bo A vo) (h1 : w1.ownsRow B 3 1 vo' (A.length + 1) (A.map (Value.int .i64) ++ [.int .i64 p])) (h2 : (w.alloc o).grownBy w1 vo.ownBlock) (h3 : vo'.ownBlock = vo.ownBlock ∨ ∀ k, vo'.ownBlock = some k → w.heap.size ≤ k) :
    Ord (w1.setCell ⟨bo, 0, none⟩ vo') B bo (A ++ [p]) vo' ∧ Marks bo vo vo' w (w1.setCell ⟨bo, 0, none⟩ vo') := by
  have ha := h.alloc o
  have hlt := h.lt
  have hle := h.le
  have hne : vo.ownBlock ≠ some bo := fun e => by have := World.ownsRow.lt h.own bo e; omega
  have hbx : w1.heap[bo]? = some (.cells #[vo] 26 (0, 0)) := by
    rw [h2.block bo (Nat.lt_of_lt_of_le ha.lt ha.le) (Ne.symm hne)]; exact ha.box
  have hs : w.heap.size ≤ w1.heap.size := by have := h2.size; simp at this; omega
  have hg : w1.grownBy (w1.setCell ⟨bo, 0, none⟩ vo') (some bo) := ⟨rfl, rfl, rfl, by simp [World.setCell], fun k _ hk => heap_setCell_other w1 ⟨bo, 0, none⟩ k vo' (fun e => hk (by simp [e]))⟩
  have hown : OwnI w1 B vo' (A ++ [p]) := by
    unfold OwnI
    rw [List.length_append, List.map_append]
    exact h1
  have hne' : vo'.ownBlock ≠ some bo := fun e => by have := World.ownsRow.lt hown bo e; omega
  refine ⟨⟨?_, OwnI.kept hown hg (.inr hne'), h.lt, by simp [World.setCell]; omega⟩, ?_⟩
  · rw [heap_setCell_same w1 bo 0 #[vo] 26 vo' hbx]; rfl
  · refine ⟨h2.os, h2.tape, h2.output, by simp [World.setCell]; omega, fun k hk h0 hn => ?_, fun k hk hn => ?_⟩
    · rw [heap_setCell_other w1 ⟨bo, 0, none⟩ k vo' (fun e => h0 e), h2.block k (by simp; omega) (fun e => hn e.symm), heap_alloc_old _ _ hk]
    · rcases h3 with h3 | h3
      · rw [h3]; exact hn
      · exact fun e => by have := h3 k e; omega
end
end Go.Proofs.Ytmibnceadciidaa
