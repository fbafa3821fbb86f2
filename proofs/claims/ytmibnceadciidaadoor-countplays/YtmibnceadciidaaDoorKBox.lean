/- The document's Counted in a box of its own: plain lemmas on worlds and lists. -/
import Derived.Test.YtmibnceadciidaaDoorRK
import Derived.Test.YtmibnceadciidaaDoorLists
namespace Go.Proofs.YtmibnceadciidaaDoor
set_option maxRecDepth 100000
open Go.RowKit Go.Sort

structure KBox (S : Nat → Prop) (w0 w : World) (B g : Nat) (vo vr vh : Value) (c : KS) : Prop where
  box : w.heap[g]? = some (.cells #[vo, vr, vh] 28 (0, 0))
  own : OwnK S w B vo vr vh c
  below : Below w0.heap.size w0 w
  ge : w0.heap.size ≤ g
  le : B ≤ w0.heap.size
  lt : ∀ k, S k → k < w0.heap.size
section
variable {S : Nat → Prop} {w0 w w1 : World} {B g : Nat} {vo vr vh v' a0 a1 a2 : Value} {c : KS} {t : TypeId} {o : Obj}
theorem KBox.new (h : OwnK S w B vo vr vh c) (hB : B ≤ w.heap.size) (hS : ∀ k, S k → k < w.heap.size) : KBox S w (w.alloc (.cells #[vo, vr, vh] 28)) B w.heap.size vo vr vh c := by
  have hb : Below w.heap.size w (w.alloc (.cells #[vo, vr, vh] 28)) := (Below.refl _ w).alloc (Nat.le_refl _) _
  exact ⟨heap_alloc_new w _, h.later hb, hb, Nat.le_refl _, hB, hS⟩
theorem KBox.later (h : KBox S w0 w B g vo vr vh c) (hb : Below w.heap.size w w1) : KBox S w0 w1 B g vo vr vh c :=
  ⟨(hb.block g (Array.getElem?_eq_some_iff.1 h.box).1).trans h.box, h.own.later hb, h.below.trans (hb.mono h.below.size), h.ge, h.le, h.lt⟩
theorem KBox.setO {L : List (List Int)} (h : KBox S w0 w B g vo vr vh c) (hv : OwnX S w B v' L) : KBox S w0 (w.setCell ⟨g, 0, none⟩ v') B g v' vr vh ⟨L, c.roots, c.here⟩ := by
  refine ⟨(tri_set v' h.box).1, ?_, h.below.setCell h.ge _, h.ge, h.le, h.lt⟩
  have : OwnK S w B v' vr vh ⟨L, c.roots, c.here⟩ := ⟨hv, h.own.ints, h.own.bools, h.own.intsO, h.own.boolsO⟩
  exact this.set h.box
theorem KBox.setR {l : List Int} (h : KBox S w0 w B g vo vr vh c) (hv : OwnI w B v' l) (ho : Out S v') : KBox S w0 (w.setCell ⟨g, 1, none⟩ v') B g vo v' vh ⟨c.outs, l, c.here⟩ := by
  refine ⟨(tri_set v' h.box).2.1, ?_, h.below.setCell h.ge _, h.ge, h.le, h.lt⟩
  have : OwnK S w B vo v' vh ⟨c.outs, l, c.here⟩ := ⟨h.own.rows, hv, h.own.bools, ho, h.own.boolsO⟩
  exact this.set h.box
theorem KBox.setH {l : List Bool} (h : KBox S w0 w B g vo vr vh c) (hv : OwnB w B v' l) (ho : Out S v') : KBox S w0 (w.setCell ⟨g, 2, none⟩ v') B g vo vr v' ⟨c.outs, c.roots, l⟩ := by
  refine ⟨(tri_set v' h.box).2.2, ?_, h.below.setCell h.ge _, h.ge, h.le, h.lt⟩
  have : OwnK S w B vo vr v' ⟨c.outs, c.roots, l⟩ := ⟨h.own.rows, h.own.ints, hv, h.own.intsO, ho⟩
  exact this.set h.box
theorem KBox.cells (h : KBox S w0 w B g vo vr vh c) : w.cell? ⟨g, 0, none⟩ = some vo ∧ w.cell? ⟨g, 1, none⟩ = some vr ∧ w.cell? ⟨g, 2, none⟩ = some vh ∧ w.frozen? ⟨g, 0, none⟩ = false ∧ w.frozen? ⟨g, 1, none⟩ = false ∧ w.frozen? ⟨g, 2, none⟩ = false := tri_cells h.box
/-- .. and beside it a block for what is returned. -/
structure KB2 (S : Nat → Prop) (w0 w : World) (B g : Nat) (vo vr vh : Value) (c : KS) : Prop where
  kb : KBox S w0 w B g vo vr vh c
  res : w.heap[g+1]? = some (.cells #[.slice none 0 0, .slice none 0 0, .slice none 0 0] 28 (0, 0))
theorem KB2.new (h : OwnK S w B vo vr vh c) (hB : B ≤ w.heap.size) (hS : ∀ k, S k → k < w.heap.size) : KB2 S w ((w.alloc (.cells #[vo, vr, vh] 28)).alloc (.cells #[.slice none 0 0, .slice none 0 0, .slice none 0 0] 28)) B w.heap.size vo vr vh c := by
  refine ⟨(KBox.new h hB hS).later ((Below.refl _ _).alloc (Nat.le_refl _) _), ?_⟩
  have := heap_alloc_new (w.alloc (.cells #[vo, vr, vh] 28)) (.cells #[.slice none 0 0, .slice none 0 0, .slice none 0 0] 28)
  rwa [World.size_alloc] at this
theorem KB2.later (h : KB2 S w0 w B g vo vr vh c) (hb : Below w.heap.size w w1) : KB2 S w0 w1 B g vo vr vh c :=
  ⟨h.kb.later hb, (hb.block _ (Array.getElem?_eq_some_iff.1 h.res).1).trans h.res⟩
theorem res_set {j : Nat} {x : Obj} (h : w.heap[g+1]? = some x) : (w.setCell ⟨g, j, none⟩ v').heap[g+1]? = some x :=
  (heap_setCell_other w ⟨g, j, none⟩ (g+1) v' (by show g + 1 ≠ g; omega)).trans h
theorem KB2.setO {L : List (List Int)} (h : KB2 S w0 w B g vo vr vh c) (hv : OwnX S w B v' L) : KB2 S w0 (w.setCell ⟨g, 0, none⟩ v') B g v' vr vh ⟨L, c.roots, c.here⟩ := ⟨h.kb.setO hv, res_set h.res⟩
theorem KB2.setR {l : List Int} (h : KB2 S w0 w B g vo vr vh c) (hv : OwnI w B v' l) (ho : Out S v') : KB2 S w0 (w.setCell ⟨g, 1, none⟩ v') B g vo v' vh ⟨c.outs, l, c.here⟩ := ⟨h.kb.setR hv ho, res_set h.res⟩
theorem KB2.setH {l : List Bool} (h : KB2 S w0 w B g vo vr vh c) (hv : OwnB w B v' l) (ho : Out S v') : KB2 S w0 (w.setCell ⟨g, 2, none⟩ v') B g vo vr v' ⟨c.outs, c.roots, l⟩ := ⟨h.kb.setH hv ho, res_set h.res⟩
theorem KB2.cells (h : KB2 S w0 w B g vo vr vh c) : w.cell? ⟨g, 0, none⟩ = some vo ∧ w.cell? ⟨g, 1, none⟩ = some vr ∧ w.cell? ⟨g, 2, none⟩ = some vh ∧ w.frozen? ⟨g, 0, none⟩ = false ∧ w.frozen? ⟨g, 1, none⟩ = false ∧ w.frozen? ⟨g, 2, none⟩ = false := tri_cells h.kb.box
theorem KB2.lt (h : KB2 S w0 w B g vo vr vh c) : g < w.heap.size := (Array.getElem?_eq_some_iff.1 h.kb.box).1
theorem KB2.hS (h : KB2 S w0 w B g vo vr vh c) : ∀ k, S k → k < w.heap.size := fun k hk => Nat.lt_of_lt_of_le (h.kb.lt k hk) h.kb.below.size
theorem KB2.hB (h : KB2 S w0 w B g vo vr vh c) : B ≤ w.heap.size := Nat.le_trans h.kb.le h.kb.below.size
/-- A Counted written into a result's block. -/
theorem k_end (hx : w.heap[g]? = some (.cells #[a0, a1, a2] 28 (0, 0))) (h : OwnK S w B vo vr vh c) (h0 : w0.heap.size ≤ g) (hb : Below w0.heap.size w0 w) :
    (((w.setCell ⟨g, 0, none⟩ vo).setCell ⟨g, 1, none⟩ vr).setCell ⟨g, 2, none⟩ vh).heap[g]? = some (.cells #[vo, vr, vh] 28 (0, 0)) ∧ OwnK S (((w.setCell ⟨g, 0, none⟩ vo).setCell ⟨g, 1, none⟩ vr).setCell ⟨g, 2, none⟩ vh) B vo vr vh c ∧ Below w0.heap.size w0 (((w.setCell ⟨g, 0, none⟩ vo).setCell ⟨g, 1, none⟩ vr).setCell ⟨g, 2, none⟩ vh) := by
  have h1 := (tri_set vo hx).1
  have h2 := (tri_set vr h1).2.1
  have h3 := (tri_set vh h2).2.2
  exact ⟨h3, ((h.set hx).set h1).set h2, ((hb.setCell h0 _).setCell h0 _).setCell h0 _⟩
theorem KB2.end_ (h : KB2 S w0 w B g vo vr vh c) : (((w.setCell ⟨g+1, 0, none⟩ vo).setCell ⟨g+1, 1, none⟩ vr).setCell ⟨g+1, 2, none⟩ vh).heap[g+1]? = some (.cells #[vo, vr, vh] 28 (0, 0)) ∧ OwnK S (((w.setCell ⟨g+1, 0, none⟩ vo).setCell ⟨g+1, 1, none⟩ vr).setCell ⟨g+1, 2, none⟩ vh) B vo vr vh c ∧ Below w0.heap.size w0 (((w.setCell ⟨g+1, 0, none⟩ vo).setCell ⟨g+1, 1, none⟩ vr).setCell ⟨g+1, 2, none⟩ vh) :=
  k_end h.res h.kb.own (by have := h.kb.ge; omega) h.kb.below
/-- .. where nothing else was done. -/
theorem k_fresh (h : OwnK S w B vo vr vh c) (o : Obj) : ((w.alloc o).alloc (.cells #[vo, vr, vh] 28)).heap[w.heap.size+1]? = some (.cells #[vo, vr, vh] 28 (0, 0)) ∧ OwnK S ((w.alloc o).alloc (.cells #[vo, vr, vh] 28)) B vo vr vh c ∧ Below w.heap.size w ((w.alloc o).alloc (.cells #[vo, vr, vh] 28)) := by
  have hb : Below w.heap.size w ((w.alloc o).alloc (.cells #[vo, vr, vh] 28)) := ((Below.refl _ w).alloc (Nat.le_refl _) _).alloc (by simp) _
  have := heap_alloc_new (w.alloc o) (.cells #[vo, vr, vh] 28)
  rw [World.size_alloc] at this
  exact ⟨this, h.later hb, hb⟩
end
/-- One row of one's own rows. -/
theorem OwnX.at {S : Nat → Prop} {w : World} {B n cap k : Nat} {ao : Option Addr} {L : List (List Int)} (h : OwnX S w B (.slice ao n cap) L) (hk : k < L.length) : ∃ g au cu, ao = some ⟨g, 0, none⟩ ∧ L.length ≤ cap ∧ g < w.heap.size ∧ w.cell? ⟨g, k, none⟩ = some (.slice au (rowAt L k).length cu) ∧ OwnI w B (.slice au (rowAt L k).length cu) (rowAt L k) ∧ Out S (.slice au (rowAt L k).length cu) := by
  obtain ⟨us, h1, h2, _, h3⟩ := h
  have h2' := h2
  rcases h2.2 with ⟨e, h0⟩ | ⟨g, cap', cur, e, hb, hg, hn, _⟩
  · omega
  · simp only [Value.slice.injEq] at e
    obtain ⟨rfl, rfl, rfl⟩ := e
    have hku : k < us.length := by omega
    have hr := h3 k _ (List.getElem?_eq_getElem hku)
    obtain ⟨au, cu, e2⟩ := OwnI.form hr.1
    rw [e2] at hr
    refine ⟨g, au, cu, rfl, hn, (Array.getElem?_eq_some_iff.1 hg).1, ?_, hr.1, hr.2⟩
    rw [World.ownsRow.cellAt h2' k (by omega), List.getElem?_eq_getElem hku, e2]
/-- A visit, a pass, some passes keep what holds. -/
theorem visit_mid {c : KS} (h : KMid c) {k : Nat} : KMid (c.visit k) := by
  unfold KS.visit
  split
  · rename_i hc
    rw [Bool.and_eq_true, beq_iff_eq] at hc
    exact goes_mid h hc.1 hc.2
  · exact h
theorem pass_mid {c : KS} (h : KMid c) : ∀ k, KMid (c.pass k)
  | 0 => h
  | k + 1 => visit_mid (pass_mid h k)
theorem passes_mid {c : KS} (h : KMid c) : ∀ n, KMid (c.passes n)
  | 0 => h
  | n + 1 => pass_mid (passes_mid h n) _
theorem pass_here {c : KS} (h : KMid c) (k : Nat) : (c.pass k).here.length = c.here.length := (pass_abs h.even k).2.2
end Go.Proofs.YtmibnceadciidaaDoor
