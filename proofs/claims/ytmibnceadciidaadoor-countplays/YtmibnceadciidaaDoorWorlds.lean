/- Several texts in one. -/
import Derived.Test.YtmibnceadciidaaDoorHeapI
import Derived.Test.YtmibnceadciidaaDoorOwn
import Derived.Test.YtmibnceadciidaaDoorKeep
/- The order in which nodes are marked, in a box of its own: plain lemmas on worlds. -/
namespace Go.Proofs.YtmibnceadciidaaDoor
set_option maxRecDepth 100000
open Go.RowKit Go.Sort

/-- In the box bo lies a row of numbers of one's own, in blocks from B on. -/
structure Ord (w : World) (B bo : Nat) (A : List Int) (vo : Value) : Prop where
  box : w.heap[bo]? = some (.cells #[vo] 25 (0, 0))
  own : OwnI w B vo A
  lt : bo < B
  le : B ≤ w.heap.size
/-- What marking turns: the box, and the row. -/
structure Marks (bo : Nat) (vo vo' : Value) (w w' : World) : Prop where
  os : w'.os = w.os
  tape : w'.tape = w.tape
  output : w'.output = w.output
  size : w.heap.size ≤ w'.heap.size
  block : ∀ k, k < w.heap.size → k ≠ bo → vo.ownBlock ≠ some k → w'.heap[k]? = w.heap[k]?
  fresh : ∀ k, k < w.heap.size → vo.ownBlock ≠ some k → vo'.ownBlock ≠ some k
/-- Of the blocks below B the box alone is turned. -/
structure But (B bo : Nat) (w w' : World) : Prop where
  os : w'.os = w.os
  tape : w'.tape = w.tape
  output : w'.output = w.output
  size : w.heap.size ≤ w'.heap.size
  block : ∀ k, k < B → k ≠ bo → w'.heap[k]? = w.heap[k]?
section
variable {B bo : Nat} {A : List Int} {vo vo' vo'' : Value} {w w1 w2 : World}
theorem But.refl (B bo : Nat) (w : World) : But B bo w w := ⟨rfl, rfl, rfl, Nat.le_refl _, fun _ _ _ => rfl⟩
theorem But.trans (h : But B bo w w1) (k : But B bo w1 w2) : But B bo w w2 :=
  ⟨k.os.trans h.os, k.tape.trans h.tape, k.output.trans h.output, Nat.le_trans h.size k.size, fun i h1 h2 => (k.block i h1 h2).trans (h.block i h1 h2)⟩
theorem But.below (h : But B bo w w1) (hl : bo ≤ B) : Below bo w w1 := ⟨h.os, h.tape, h.output, h.size, fun i hi => h.block i (by omega) (by omega)⟩
theorem But.cell (h : But B bo w w1) {p : Addr} (hp : p.block < B) (hn : p.block ≠ bo) : w1.cell? p = w.cell? p := World.cell?_of_block (h.block _ hp hn)
theorem But.drewN (B bo : Nat) (w : World) (n : Nat) : But B bo w (w.drewN n) := ⟨rfl, rfl, rfl, Nat.le_refl _, fun _ _ _ => rfl⟩
theorem But.later (h : Below w.heap.size w w1) (hB : B ≤ w.heap.size) : But B bo w w1 := ⟨h.os, h.tape, h.output, h.size, fun i hi _ => h.block i (by omega)⟩
theorem But.grown {o : Obj} {row : Option Nat} (h : (w.alloc o).grownBy w1 row) (hB : B ≤ w.heap.size) (hr : ∀ k, row = some k → B ≤ k) : But B bo w w1 :=
  ⟨h.os, h.tape, h.output, by have := h.size; simp at this; omega, fun i hi _ => by
    rw [h.block i (by simp; omega) (fun e => by have := hr i e.symm; omega), heap_alloc_old _ _ (by omega)]⟩
theorem But.set (B bo j : Nat) (w : World) (u : Value) : But B bo w (w.setCell ⟨bo, j, none⟩ u) := ⟨rfl, rfl, rfl, by simp [World.setCell], fun i _ hn => heap_setCell_other w ⟨bo, j, none⟩ i u (fun e => hn e)⟩
theorem Marks.refl (bo : Nat) (vo : Value) (w : World) : Marks bo vo vo w w := ⟨rfl, rfl, rfl, Nat.le_refl _, fun _ _ _ _ => rfl, fun _ _ h => h⟩
theorem Marks.but (h : Marks bo vo vo' w w1) (ho : Ord w B bo A vo) : But B bo w w1 :=
  ⟨h.os, h.tape, h.output, h.size, fun i hi hn => h.block i (Nat.lt_of_lt_of_le hi ho.le) hn fun e => by have := World.ownsRow.lt ho.own i e; omega⟩
theorem Ord.cell (h : Ord w B bo A vo) : w.cell? ⟨bo, 0, none⟩ = some vo := by simp [World.cell?, h.box]
theorem Ord.soft (h : Ord w B bo A vo) : w.frozen? ⟨bo, 0, none⟩ = false := by simp [World.frozen?, h.box]
theorem Ord.form (h : Ord w B bo A vo) : ∃ ao cap, vo = .slice ao A.length cap := OwnI.form h.own
theorem Ord.drewN (h : Ord w B bo A vo) (n : Nat) : Ord (w.drewN n) B bo A vo := ⟨h.box, h.own, h.lt, h.le⟩
theorem Ord.alloc (h : Ord w B bo A vo) (o : Obj) : Ord (w.alloc o) B bo A vo :=
  ⟨by rw [heap_alloc_old _ _ (Nat.lt_of_lt_of_le h.lt h.le)]; exact h.box, World.ownsRow.alloc h.own o, h.lt, by have := h.le; simp; omega⟩
theorem Ord.later (h : Ord w B bo A vo) (hb : Below w.heap.size w w1) : Ord w1 B bo A vo :=
  ⟨by rw [hb.block bo (Nat.lt_of_lt_of_le h.lt h.le)]; exact h.box, h.own.later hb, h.lt, Nat.le_trans h.le hb.size⟩
/-- What turns another block leaves it. -/
theorem Ord.other (h : Ord w B bo A vo) {row : Option Nat} (hg : w.grownBy w1 row) (h1 : row ≠ some bo) (h2 : vo.ownBlock = none ∨ vo.ownBlock ≠ row) : Ord w1 B bo A vo :=
  ⟨by rw [hg.block bo (Nat.lt_of_lt_of_le h.lt h.le) (Ne.symm h1)]; exact h.box, OwnI.kept h.own hg h2, h.lt, Nat.le_trans h.le hg.size⟩
/-- At the beginning. -/
theorem ord_start (w : World) (o : Obj) : Ord ((w.alloc (.cells #[.slice none 0 0] 25)).alloc o) (w.heap.size + 1 + 1) w.heap.size [] (.slice none 0 0) :=
  ⟨by rw [heap_alloc_old _ _ (by simp), heap_alloc_new], OwnI.nil _ _, by omega, by simp⟩
theorem Ord.raise (h : Ord w B bo [] (.slice none 0 0)) {B' : Nat} (h1 : B ≤ B') (h2 : B' ≤ w.heap.size) : Ord w B' bo [] (.slice none 0 0) := ⟨h.box, OwnI.nil _ _, Nat.lt_of_lt_of_le h.lt h1, h2⟩
theorem Ord.notbox (h : Ord w B bo A vo) : vo.ownBlock ≠ some bo := fun e => by have := World.ownsRow.lt h.own bo e; have := h.lt; omega
theorem Ord.appended_heap (h : Ord w B bo A vo) {o : Obj} (hg : (w.alloc o).grownBy w1 vo.ownBlock) : w1.heap[bo]? = some (.cells #[vo] 25 (0, 0)) := by
  have ha := h.alloc o
  rw [hg.block bo (Nat.lt_of_lt_of_le ha.lt ha.le) (Ne.symm h.notbox)]; exact ha.box
theorem Ord.appended_box (h : Ord w B bo A vo) {o : Obj} (hg : (w.alloc o).grownBy w1 vo.ownBlock) : w1.cell? ⟨bo, 0, none⟩ = some vo := by simp [World.cell?, h.appended_heap hg]
theorem Ord.appended_soft (h : Ord w B bo A vo) {o : Obj} (hg : (w.alloc o).grownBy w1 vo.ownBlock) : w1.frozen? ⟨bo, 0, none⟩ = false := by simp [World.frozen?, h.appended_heap hg]
theorem Ord.appended (h : Ord w B bo A vo) {o : Obj} (hg : (w.alloc o).grownBy w1 vo.ownBlock) {g j : Nat} {u : Value} (hc : w.cell? ⟨g, j, none⟩ = some u) (_ : g ≠ bo) (hB : g < B) : w1.cell? ⟨g, j, none⟩ = some u :=
  hg.cell (Lib.cell?_alloc_some _ hc) fun e => by have := World.ownsRow.lt h.own g e.symm; omega
/-- An append of one number, and the box filled. -/
theorem Ord.put {o : Obj} {p : Int} (h : Ord w B bo A vo) (h1 : w1.ownsRow B 3 1 vo' (A.length + 1) (A.map (Value.int .i64) ++ [.int .i64 p])) (h2 : (w.alloc o).grownBy w1 vo.ownBlock) (h3 : vo'.ownBlock = vo.ownBlock ∨ ∀ k, vo'.ownBlock = some k → w.heap.size ≤ k) :
    Ord (w1.setCell ⟨bo, 0, none⟩ vo') B bo (A ++ [p]) vo' ∧ Marks bo vo vo' w (w1.setCell ⟨bo, 0, none⟩ vo') := by
  have ha := h.alloc o
  have hlt := h.lt
  have hle := h.le
  have hne : vo.ownBlock ≠ some bo := fun e => by have := World.ownsRow.lt h.own bo e; omega
  have hbx : w1.heap[bo]? = some (.cells #[vo] 25 (0, 0)) := by
    rw [h2.block bo (Nat.lt_of_lt_of_le ha.lt ha.le) (Ne.symm hne)]; exact ha.box
  have hs : w.heap.size ≤ w1.heap.size := by have := h2.size; simp at this; omega
  have hg : w1.grownBy (w1.setCell ⟨bo, 0, none⟩ vo') (some bo) := ⟨rfl, rfl, rfl, by simp [World.setCell], fun k _ hk => heap_setCell_other w1 ⟨bo, 0, none⟩ k vo' (fun e => hk (by simp [e]))⟩
  have hown : OwnI w1 B vo' (A ++ [p]) := by
    unfold OwnI
    rw [List.length_append, List.map_append]
    exact h1
  have hne' : vo'.ownBlock ≠ some bo := fun e => by have := World.ownsRow.lt hown bo e; omega
  refine ⟨⟨?_, OwnI.kept hown hg (.inr hne'), h.lt, by simp [World.setCell]; omega⟩, ?_⟩
  · rw [heap_setCell_same w1 bo 0 #[vo] 25 vo' hbx]; rfl
  · refine ⟨h2.os, h2.tape, h2.output, by simp [World.setCell]; omega, fun k hk h0 hn => ?_, fun k hk hn => ?_⟩
    · rw [heap_setCell_other w1 ⟨bo, 0, none⟩ k vo' (fun e => h0 e), h2.block k (by simp; omega) (fun e => hn e.symm), heap_alloc_old _ _ hk]
    · rcases h3 with h3 | h3
      · rw [h3]; exact hn
      · exact fun e => by have := h3 k e; omega
end
end Go.Proofs.YtmibnceadciidaaDoor

/- An order in a box, and rows that lie beside it: plain lemmas on worlds. -/
namespace Go.Proofs.YtmibnceadciidaaDoor
set_option maxRecDepth 100000
open Go.RowKit Go.Sort

/-- The row's block is not the order's. -/
def Apart (u vo : Value) : Prop := ∀ k, u.ownBlock = some k → vo.ownBlock ≠ some k
section
variable {B bo base t s n : Nat} {A : List Int} {u u' vo vo' vo'' : Value} {xs : List Value} {w w1 w2 : World}
theorem apart_nil (vo : Value) : Apart (.slice none 0 0) vo := fun k h => by simp [Value.ownBlock] at h
theorem Marks.trans (h : Marks bo vo vo' w w1) (k : Marks bo vo' vo'' w1 w2) : Marks bo vo vo'' w w2 :=
  ⟨k.os.trans h.os, k.tape.trans h.tape, k.output.trans h.output, Nat.le_trans h.size k.size,
    fun i hi hn hv => (k.block i (Nat.lt_of_lt_of_le hi h.size) hn (h.fresh i hi hv)).trans (h.block i hi hn hv), fun i hi hv => k.fresh i (Nat.lt_of_lt_of_le hi h.size) (h.fresh i hi hv)⟩
/-- A row that lies apart is kept, and lies apart. -/
theorem Marks.row (h : Marks bo vo vo' w w1) (ho : w.ownsRow base t s u n xs) (hb : bo < base) (ha : Apart u vo) : w1.ownsRow base t s u n xs ∧ Apart u vo' := by
  refine ⟨⟨ho.1, ?_⟩, fun k hk => h.fresh k (World.ownsRow.lt ho k hk).2 (ha k hk)⟩
  rcases ho.2 with h0 | ⟨b, cap, cur, hv, hB2, hb2, rest⟩
  · exact .inl h0
  · have hbs := (Array.getElem?_eq_some_iff.1 hb2).1
    exact .inr ⟨b, cap, cur, hv, hB2, by rw [h.block b hbs (by omega) (ha b (by rw [hv]; rfl))]; exact hb2, rest⟩
/-- Behind it something new grows. -/
theorem Marks.grown {o : Obj} {row : Option Nat} (h : Marks bo vo vo' w w1) (hg : (w1.alloc o).grownBy w2 row) (hr : ∀ k, row = some k → w.heap.size ≤ k) : Marks bo vo vo' w w2 :=
  ⟨hg.os.trans h.os, hg.tape.trans h.tape, hg.output.trans h.output, by have h1 := hg.size; have h2 := h.size; simp at h1; omega, fun k hk hn hv => by
    have h2 := h.size
    rw [hg.block k (by simp; omega) (fun e => by have := hr k e.symm; omega), heap_alloc_old _ _ (by omega)]
    exact h.block k hk hn hv, h.fresh⟩
theorem Marks.later (h : Marks bo vo vo' w w1) (hb : Below w1.heap.size w1 w2) : Marks bo vo vo' w w2 :=
  ⟨hb.os.trans h.os, hb.tape.trans h.tape, hb.output.trans h.output, Nat.le_trans h.size hb.size, fun k hk hn hv => by
    have h2 := h.size
    rw [hb.block k (by omega)]
    exact h.block k hk hn hv, h.fresh⟩
/-- The order stays while a row that lies apart grows, and that row lies apart. -/
theorem Ord.beside {o : Obj} (h : Ord w B bo A vo) (hu : w.ownsRow base t s u n xs) (hb : bo < base) (ha : Apart u vo) (hg : (w.alloc o).grownBy w1 u.ownBlock) (hat : u'.ownBlock = u.ownBlock ∨ u'.ownBlock = some (w.alloc o).heap.size) : Ord w1 B bo A vo ∧ Apart u' vo := by
  refine ⟨(h.alloc o).other hg (fun e => by have := World.ownsRow.lt hu bo e; omega) ?_, fun k hk hv => ?_⟩
  · cases hv : vo.ownBlock with
    | none => exact .inl rfl
    | some k => exact .inr fun e => ha k e.symm hv
  · rcases hat with e | e
    · exact ha k (e ▸ hk) hv
    · have h1 := World.ownsRow.lt h.own k hv
      rw [hk] at e
      have e := Option.some.inj e
      simp at e
      omega
/-- A row whose elements are of another type lies apart. -/
theorem apart_type {t' s' n' base' : Nat} {xs' : List Value} (hu : w.ownsRow base t s u n xs) (hv : w.ownsRow base' t' s' vo n' xs') (ht : t ≠ t') : Apart u vo := fun k hk hk' => by
  rcases hu.2 with ⟨rfl, _⟩ | ⟨g, cap, cur, rfl, _, hg, _⟩
  · simp [Value.ownBlock] at hk
  · rcases hv.2 with ⟨rfl, _⟩ | ⟨g2, cap2, cur2, rfl, _, hg2, _⟩
    · simp [Value.ownBlock] at hk'
    · simp [Value.ownBlock] at hk hk'
      subst hk
      subst hk'
      rw [hg] at hg2
      simp at hg2
      exact ht hg2.2
/-- A block of another type is none of a row's. -/
theorem own_not {g t' : Nat} {cs : Array Value} {fr : Nat × Nat} (hu : w.ownsRow base t s u n xs) (hg : w.heap[g]? = some (.cells cs t' fr)) (ht : t ≠ t') : u.ownBlock ≠ some g := fun hk => by
  rcases hu.2 with ⟨rfl, _⟩ | ⟨b, cap, cur, rfl, _, hb, _⟩
  · simp [Value.ownBlock] at hk
  · simp [Value.ownBlock] at hk
    subst hk
    rw [hg] at hb
    simp at hb
    exact ht hb.2.1.symm
end
end Go.Proofs.YtmibnceadciidaaDoor

/- Cells of a row of ints of one's own whose length is known by another name. -/
namespace Go.Proofs.YtmibnceadciidaaDoor
open Go.RowKit Go.Sort

theorem OwnI.cellN {w : World} {base n g cap j : Nat} {l : List Int} (h : OwnI w base (.slice (some ⟨g, 0, none⟩) n cap) l) (hn : l.length = n) (hj : j < n) : w.cell? ⟨g, j, none⟩ = some (.int .i64 (l[j]?.getD 0)) := by
  subst hn
  rw [World.ownsRow.cellAt h j (by omega), List.getElem?_map, List.getElem?_eq_getElem hj]; rfl
theorem OwnI.softN {w : World} {base n g cap : Nat} {l : List Int} (h : OwnI w base (.slice (some ⟨g, 0, none⟩) n cap) l) (hn : l.length = n) (j : Nat) : w.frozen? ⟨g, j, none⟩ = false := by
  subst hn
  exact World.ownsRow.frozenAt h j

end Go.Proofs.YtmibnceadciidaaDoor

/- An arena of the document's (larderwickref2): two rows of one's own, of where blocks are and of their orders, or sizes. -/
namespace Go.Proofs.YtmibnceadciidaaDoor
open Go.RowKit Go.Sort

/-- Where blocks are that are lent, and of which orders. -/
def atsI (L : List (Nat × Nat)) : List Int := L.map fun b => (b.1 : Int)
def ordsI (L : List (Nat × Nat)) : List Int := L.map fun b => (b.2 : Int)
theorem atsI_length (L : List (Nat × Nat)) : (atsI L).length = L.length := by unfold atsI; rw [List.length_map]
theorem ordsI_length (L : List (Nat × Nat)) : (ordsI L).length = L.length := by unfold ordsI; rw [List.length_map]
theorem atsI_get {L : List (Nat × Nat)} {k : Nat} (hk : k < L.length) : (atsI L)[k]?.getD 0 = ((L[k]).1 : Int) := by
  unfold atsI
  rw [List.getElem?_map, List.getElem?_eq_getElem hk]; rfl
theorem ords_succ {L : List (Nat × Nat)} {k : Nat} (hk : k < L.length) : (ordsI L).take (k+1) = (ordsI L).take k ++ [((L[k]).2 : Int)] := by
  have h : k < (ordsI L).length := by rw [ordsI_length]; exact hk
  rw [List.take_succ_eq_append_getElem h]
  congr 2
  simp [ordsI]
theorem atsI_add (B : List (Nat × Nat)) (p k : Nat) : atsI (B ++ [(p, k)]) = atsI B ++ [(p : Int)] := by unfold atsI; rw [List.map_append]; rfl
theorem ordsI_add (B : List (Nat × Nat)) (p k : Nat) : ordsI (B ++ [(p, k)]) = ordsI B ++ [(k : Int)] := by unfold ordsI; rw [List.map_append]; rfl
theorem ordsI_get {L : List (Nat × Nat)} {k : Nat} (hk : k < L.length) : (ordsI L)[k]?.getD 0 = ((L[k]).2 : Int) := by
  unfold ordsI
  rw [List.getElem?_map, List.getElem?_eq_getElem hk]; rfl
/-- The document's arena: two rows of one's own, where blocks are that are lent, and of which orders. -/
def IsAr (w : World) (B : Nat) (v : Value) (L : List (Nat × Nat)) : Prop := ∃ va vo, v = .agg #[va, vo] ∧ OwnI w B va (atsI L) ∧ OwnI w B vo (ordsI L)
theorem IsAr.later {w w1 : World} {B : Nat} {v : Value} {L : List (Nat × Nat)} (h : IsAr w B v L) (hb : Below w.heap.size w w1) : IsAr w1 B v L := by
  obtain ⟨va, vo, rfl, h1, h2⟩ := h
  exact ⟨va, vo, rfl, h1.later hb, h2.later hb⟩
theorem IsAr.mono {w : World} {B B' : Nat} {v : Value} {L : List (Nat × Nat)} (h : IsAr w B v L) (hB : B' ≤ B) : IsAr w B' v L := by
  obtain ⟨va, vo, rfl, h1, h2⟩ := h
  exact ⟨va, vo, rfl, ownI_mono h1 hB, ownI_mono h2 hB⟩
/-- A row of one's own, opened at a place. -/
theorem own_at {w : World} {B n : Nat} {ao : Option Addr} {cap : Nat} {l : List Int} (h : OwnI w B (.slice ao n cap) l) (hn : l.length = n) {i : Nat} (hi : i < n) : ∃ g, ao = some ⟨g, 0, none⟩ ∧ g < w.heap.size ∧ n ≤ cap ∧ cap ≤ maxLen ∧ w.cell? ⟨g, i, none⟩ = some (.int .i64 (l[i]?.getD 0)) := by
  subst hn
  rcases h.2 with ⟨h1, h0⟩ | ⟨g, cap', cur, h1, _, hg, hnc, hm, _⟩
  · omega
  · simp only [Value.slice.injEq, true_and] at h1
    obtain ⟨rfl, rfl⟩ := h1
    exact ⟨g, rfl, (Array.getElem?_eq_some_iff.1 hg).1, hnc, hm, h.cellN rfl hi⟩
theorem own_ne {w : World} {base c : Nat} {v : Value} {l : List Int} {cur : Array Value} {t : TypeId} {fz : Nat × Nat} (h : OwnI w base v l) (hc : w.heap[c]? = some (.cells cur t fz)) (ht : t ≠ 3) : some c ≠ v.ownBlock := by
  intro e
  rcases h.2 with ⟨rfl, _⟩ | ⟨g, cap, cur2, rfl, _, hg, _⟩
  · cases e
  · have : c = g := by simpa [Value.ownBlock] using e
    subst this
    rw [hg] at hc
    simp at hc
    exact ht hc.2.1.symm
theorem box_set0 {W : World} {g : Nat} {t : TypeId} {a0 a1 : Value} (u : Value) (h : W.heap[g]? = some (.cells #[a0, a1] t (0, 0))) : (W.setCell ⟨g, 0, none⟩ u).heap[g]? = some (.cells #[u, a1] t (0, 0)) := by
  simp only [World.setCell, Array.getElem?_modify]
  rw [if_pos trivial, h]; rfl
theorem box_set1 {W : World} {g : Nat} {t : TypeId} {a0 a1 : Value} (u : Value) (h : W.heap[g]? = some (.cells #[a0, a1] t (0, 0))) : (W.setCell ⟨g, 1, none⟩ u).heap[g]? = some (.cells #[a0, u] t (0, 0)) := by
  simp only [World.setCell, Array.getElem?_modify]
  rw [if_pos trivial, h]; rfl
theorem box_cells {W : World} {g : Nat} {t : TypeId} {a0 a1 : Value} (h : W.heap[g]? = some (.cells #[a0, a1] t (0, 0))) : W.cell? ⟨g, 0, none⟩ = some a0 ∧ W.cell? ⟨g, 1, none⟩ = some a1 ∧ W.frozen? ⟨g, 0, none⟩ = false ∧ W.frozen? ⟨g, 1, none⟩ = false := by
  refine ⟨?_, ?_, ?_, ?_⟩
  · unfold World.cell?; rw [show W.heap[(⟨g, 0, none⟩ : Addr).block]? = _ from h]; rfl
  · unfold World.cell?; rw [show W.heap[(⟨g, 1, none⟩ : Addr).block]? = _ from h]; rfl
  · unfold World.frozen?; rw [show W.heap[(⟨g, 0, none⟩ : Addr).block]? = _ from h]; simp
  · unfold World.frozen?; rw [show W.heap[(⟨g, 1, none⟩ : Addr).block]? = _ from h]; simp
end Go.Proofs.YtmibnceadciidaaDoor

/- Results of a function that lie in a block: plain laws. -/
namespace Go.Proofs.YtmibnceadciidaaDoor
open Go.RowKit Go.Sort

theorem results_tmp_cell_tmp {P : Program} {fn : Func} {p u v : Tmp} {ty : TypeId} (h : fn.results = #[.tmp u, .cell p ty, .tmp v]) (tmps : Array Value) (w : World) (g : Nat) (t : TypeId) (cs : Array Value) (fr : Nat × Nat) (d : TypeDesc)
    (hp : tmps.getD p undef = .pointer (some ⟨g, 0, none⟩)) (hg : w.heap[g]? = some (.cells cs t fr))
    (hu : P.underlying ty = some d) (hd : (match d with | .struct _ | .array _ _ => true | _ => false) = true) (hi : (P.info? ty).map (·.size) = some cs.size) :
    (results fn tmps).run P w = .ok (.tuple #[tmps.getD u undef, .agg cs, tmps.getD v undef]) w := by
  have hp' : tmps[p]?.getD undef = .pointer (some ⟨g, 0, none⟩) := by simpa using hp
  simp [results, h, hp', asAddr, run_loadVar_row w g t ty cs fr d hg hu hd hi]
theorem own_box {w : World} {base t s n g j : Nat} {v : Value} {xs : List Value} (h : w.ownsRow base t s v n xs) (u : Value) (hg : g < base) : (w.setCell ⟨g, j, none⟩ u).ownsRow base t s v n xs :=
  World.ownsRow.kept h (row := some g) ⟨rfl, rfl, rfl, by simp [World.setCell], fun i _ hi => heap_setCell_other w ⟨g, j, none⟩ i u (fun e => hi (by rw [show i = g from e]))⟩ (.inr fun e => by have := World.ownsRow.lt h g e; omega)
theorem OwnR.box {w : World} {base g j : Nat} {v : Value} {L : List (List Int)} (h : OwnR w base v L) (u : Value) (hg : g < base) : OwnR (w.setCell ⟨g, j, none⟩ u) base v L := by
  obtain ⟨us, h1, h2, h3⟩ := h
  exact ⟨us, h1, own_box h2 u hg, fun i x hi => own_box (h3 i x hi) u hg⟩
/-- Rows that lie between the box and B. -/
theorem OwnR.but {w w1 : World} {base B g : Nat} {v : Value} {L : List (List Int)} (h : OwnR w base v L) (hb : But B g w w1) (hg : g < base) (hB : w.heap.size ≤ B) : OwnR w1 base v L := by
  have key : ∀ {t s n : Nat} {u : Value} {xs : List Value}, w.ownsRow base t s u n xs → w1.ownsRow base t s u n xs := by
    intro t s n u xs ho
    refine ⟨ho.1, ?_⟩
    rcases ho.2 with h0 | ⟨b, cap, cur, hv, hB2, hb2, rest⟩
    · exact .inl h0
    · have hbs := (Array.getElem?_eq_some_iff.1 hb2).1
      exact .inr ⟨b, cap, cur, hv, hB2, by rw [hb.block b (by omega) (by omega)]; exact hb2, rest⟩
  obtain ⟨us, h1, h2, h3⟩ := h
  exact ⟨us, h1, key h2, fun j u hj => key (h3 j u hj)⟩
/-- Rows and roots, written into a result's block. -/
theorem heap_end {w0 w : World} {base g : Nat} {vo vr : Value} {X : List (List Int)} {Y : List Int} {t : TypeId} {a0 a1 : Value} (hx : w.heap[g]? = some (.cells #[a0, a1] t (0, 0))) (ho : OwnR w base vo X) (hr : OwnI w base vr Y) (hg : g < base) (h0 : w0.heap.size ≤ g) (hb : Below w0.heap.size w0 w) :
    ((w.setCell ⟨g, 0, none⟩ vo).setCell ⟨g, 1, none⟩ vr).heap[g]? = some (.cells #[vo, vr] t (0, 0)) ∧ (OwnR ((w.setCell ⟨g, 0, none⟩ vo).setCell ⟨g, 1, none⟩ vr) base vo X ∧ OwnI ((w.setCell ⟨g, 0, none⟩ vo).setCell ⟨g, 1, none⟩ vr) base vr Y) ∧ Below w0.heap.size w0 ((w.setCell ⟨g, 0, none⟩ vo).setCell ⟨g, 1, none⟩ vr) :=
  ⟨box_set1 _ (box_set0 _ hx), ⟨(ho.box vo hg).box vr hg, own_box (own_box hr vo hg) vr hg⟩, (hb.setCell h0 _).setCell h0 _⟩
end Go.Proofs.YtmibnceadciidaaDoor

/- Rows of numbers of one's own beside an order in a box: plain lemmas on worlds. -/
namespace Go.Proofs.YtmibnceadciidaaDoor
set_option maxRecDepth 100000
open Go.RowKit Go.Sort

/-- A slice of slices of numbers of one's own, none of which lies in the order's block. -/
def RowsA (w : World) (base : Nat) (vo v : Value) (X : List (List Int)) : Prop :=
  ∃ us : List Value, us.length = X.length ∧ w.ownsRow base 25 1 v X.length us ∧ ∀ j u, us[j]? = some u → OwnI w base u (rowAt X j) ∧ Apart u vo
section
variable {B bo base : Nat} {A : List Int} {vo vo' v v' u : Value} {w w1 : World} {X : List (List Int)}
theorem rowsA_nil (w : World) (base : Nat) (vo : Value) : RowsA w base vo (.slice none 0 0) [] := ⟨[], rfl, World.ownsRow_nil _ _ _ _, fun j u h => by simp at h⟩
theorem RowsA.ownR (h : RowsA w base vo v X) : OwnR w base v X := by
  obtain ⟨us, h1, h2, h3⟩ := h
  exact ⟨us, h1, h2, fun j u hj => (h3 j u hj).1⟩
theorem RowsA.marks (h : RowsA w base vo v X) (hm : Marks bo vo vo' w w1) (hb : bo < base) (ho : OwnI w B vo A) : RowsA w1 base vo' v X := by
  obtain ⟨us, h1, h2, h3⟩ := h
  refine ⟨us, h1, (hm.row h2 hb (apart_type h2 ho (by decide))).1, fun j u hj => ?_⟩
  exact hm.row (h3 j u hj).1 hb (h3 j u hj).2
theorem RowsA.append {r : List Int} {us : List Value} {o : Obj} (hl : us.length = X.length) (h2 : w.ownsRow base 25 1 v X.length us) (h3 : ∀ j u, us[j]? = some u → OwnI w base u (rowAt X j) ∧ Apart u vo) (hu : OwnI w base u r) (hu2 : Apart u vo)
    (ha : w1.ownsRow base 25 1 v' (X.length + 1) (us ++ [u])) (hg : (w.alloc o).grownBy w1 v.ownBlock) : RowsA w1 base vo v' (X ++ [r]) := by
  refine ⟨us ++ [u], by simp [hl], by rw [List.length_append]; exact ha, fun j x hj => ?_⟩
  have h2a : (w.alloc o).ownsRow base 25 1 v X.length us := World.ownsRow.alloc h2 o
  have key : ∀ {x : Value} {l : List Int}, OwnI w base x l → OwnI w1 base x l := fun {x l} hx => by
    have hxa : OwnI (w.alloc o) base x l := World.ownsRow.alloc hx o
    exact OwnI.kept hxa hg (apart_ri h2a hxa)
  unfold rowAt
  by_cases hjl : j < us.length
  · rw [List.getElem?_append_left hjl] at hj
    rw [List.getElem?_append_left (by omega)]
    exact ⟨key (h3 j x hj).1, (h3 j x hj).2⟩
  · rw [List.getElem?_append_right (by omega)] at hj
    have hj0 : j - us.length = 0 := by
      have := (List.getElem?_eq_some_iff.1 hj).1
      simp at this; omega
    rw [hj0] at hj
    have hxu : u = x := by simpa using hj
    subst hxu
    rw [List.getElem?_append_right (by omega), show j - X.length = 0 by omega]
    exact ⟨key hu, hu2⟩
theorem grown_set (w : World) (g j : Nat) (x : Value) : w.grownBy (w.setCell ⟨g, j, none⟩ x) (some g) := ⟨rfl, rfl, rfl, by simp [World.setCell], fun i _ hi => heap_setCell_other w ⟨g, j, none⟩ i x (fun e => hi (by rw [show i = g from e]))⟩
/-- A cell of a box of another type is written. -/
theorem own_set {t t' s n g j : Nat} {xs : List Value} {cs : Array Value} {fr : Nat × Nat} (h : w.ownsRow base t s u n xs) (hg : w.heap[g]? = some (.cells cs t' fr)) (ht : t ≠ t') (x : Value) : (w.setCell ⟨g, j, none⟩ x).ownsRow base t s u n xs :=
  World.ownsRow.kept h (grown_set w g j x) (.inr (own_not h hg ht))
theorem RowsA.set {g j : Nat} {t' : TypeId} {cs : Array Value} {fr : Nat × Nat} (h : RowsA w base vo v X) (hg : w.heap[g]? = some (.cells cs t' fr)) (h1 : 25 ≠ t') (h2 : 3 ≠ t') (x : Value) : RowsA (w.setCell ⟨g, j, none⟩ x) base vo v X := by
  obtain ⟨us, a1, a2, a3⟩ := h
  exact ⟨us, a1, own_set a2 hg h1 x, fun j u hj => ⟨own_set (a3 j u hj).1 hg h2 x, (a3 j u hj).2⟩⟩
theorem Ord.set {g j : Nat} {t' : TypeId} {cs : Array Value} {fr : Nat × Nat} (h : Ord w B bo A vo) (hg : w.heap[g]? = some (.cells cs t' fr)) (h2 : 3 ≠ t') (hn : g ≠ bo) (x : Value) : Ord (w.setCell ⟨g, j, none⟩ x) B bo A vo :=
  h.other (grown_set w g j x) (fun e => hn (Option.some.inj e)) (.inr (own_not h.own hg h2))
theorem But.setB {g j : Nat} (h : B ≤ g) (w : World) (x : Value) : But B bo w (w.setCell ⟨g, j, none⟩ x) := ⟨rfl, rfl, rfl, by simp [World.setCell], fun i hi _ => heap_setCell_other w ⟨g, j, none⟩ i x (fun e => by have e : i = g := e; omega)⟩
/-- What a call that turns the order leaves. -/
theorem copy_mid {g : Nat} {A2 Y r : List Int} {u0 : Value} (hX : RowsA w B vo v X) (ho : Ord w B bo A2 vo) (hY : OwnI w B u0 Y) (hYa : Apart u0 vo) (hg : w.heap[g]? = some (.cells #[v, u0] 45 (0, 0))) (hgB : B ≤ g) (hm : Marks bo vo vo' w w1) (hu : OwnI w1 w.heap.size u r) :
    RowsA w1 B vo' v X ∧ OwnI w1 B u0 Y ∧ Apart u0 vo' ∧ w1.heap[g]? = some (.cells #[v, u0] 45 (0, 0)) ∧ OwnI w1 B u r ∧ But B bo w w1 := by
  have hl := ho.lt
  have hy := hm.row hY ho.lt hYa
  exact ⟨hX.marks hm ho.lt ho.own, hy.1, hy.2, (hm.block g (Array.getElem?_eq_some_iff.1 hg).1 (by omega) (own_not ho.own hg (by decide))).trans hg, ownI_mono hu ho.le, hm.but ho⟩
/-- .. and what an append to the rows, and a store into the box, leave. -/
theorem copy_end {g : Nat} {A3 Y r : List Int} {u0 : Value} {us : List Value} {o : Obj} (ho : Ord w B bo A3 vo) (hY : OwnI w B u0 Y) (hYa : Apart u0 vo) (hg : w.heap[g]? = some (.cells #[v, u0] 45 (0, 0))) (hgB : B ≤ g)
    (hl : us.length = X.length) (h2 : w.ownsRow B 25 1 v X.length us) (h3 : ∀ j u, us[j]? = some u → OwnI w B u (rowAt X j) ∧ Apart u vo) (hu : OwnI w B u r) (hu2 : Apart u vo)
    (ha : w1.ownsRow B 25 1 v' (X.length + 1) (us ++ [u])) (hgr : (w.alloc o).grownBy w1 v.ownBlock) (hat : v'.ownBlock = v.ownBlock ∨ v'.ownBlock = some (w.alloc o).heap.size) :
    w1.heap[g]? = some (.cells #[v, u0] 45 (0, 0)) ∧ Ord (w1.setCell ⟨g, 0, none⟩ v') B bo A3 vo ∧ RowsA (w1.setCell ⟨g, 0, none⟩ v') B vo v' (X ++ [r]) ∧ (OwnI (w1.setCell ⟨g, 0, none⟩ v') B u0 Y ∧ Apart u0 vo) ∧ (w1.setCell ⟨g, 0, none⟩ v').heap[g]? = some (.cells #[v', u0] 45 (0, 0)) ∧ But B bo w (w1.setCell ⟨g, 0, none⟩ v') := by
  have hlt := ho.lt
  have hle := ho.le
  have hgs := (Array.getElem?_eq_some_iff.1 hg).1
  have h2a : (w.alloc o).ownsRow B 25 1 v X.length us := World.ownsRow.alloc h2 o
  have hg1 : w1.heap[g]? = some (.cells #[v, u0] 45 (0, 0)) := by
    rw [hgr.block g (by simp; omega) (fun e => own_not h2 hg (by decide) e.symm), heap_alloc_old _ _ hgs]; exact hg
  have hy : OwnI w1 B u0 Y := OwnI.kept (World.ownsRow.alloc hY o) hgr (apart_ri h2a (World.ownsRow.alloc hY o))
  have hR := RowsA.append hl h2 h3 hu hu2 ha hgr
  have hO := (ho.beside h2 hlt (apart_type h2 ho.own (by decide)) hgr hat).1
  exact ⟨hg1, hO.set hg1 (by decide) (by omega) _, hR.set hg1 (by decide) (by decide) _, ⟨own_set hy hg1 (by decide) _, hYa⟩, box_set0 _ hg1, (But.grown hgr hle fun k hk => (World.ownsRow.lt h2 k hk).1).trans (But.setB hgB _ _)⟩
end
end Go.Proofs.YtmibnceadciidaaDoor
