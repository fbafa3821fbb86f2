/- A heap that counts and the document's Counted, beside each other: plain lemmas on worlds. -/
import Derived.Test.YtmibnceadciidaaDoorKBox
import Derived.Test.YtmibnceadciidaaDoorCStep
namespace Go.Proofs.YtmibnceadciidaaDoor
set_option maxRecDepth 100000
open Go.RowKit Go.Sort

structure PEnv (S : Nat → Prop) (w0 w : World) (a g : Nat) (vo vr vh : Value) (c d : KS) : Prop where
  obj : Obj w0 w S a c
  box : w.heap[g]? = some (.cells #[vo, vr, vh] 28 (0, 0))
  out : ¬ S g
  ge : w0.heap.size ≤ g
  own : OwnK S w 0 vo vr vh d
section
variable {S S' : Nat → Prop} {w0 w w1 : World} {a g : Nat} {vo vr vh v1 v2 v3 : Value} {c c' d d' : KS}
theorem PEnv.later (h : PEnv S w0 w a g vo vr vh c d) (hb : Below w.heap.size w w1) : PEnv S w0 w1 a g vo vr vh c d :=
  ⟨h.obj.later hb, (hb.block g (Array.getElem?_eq_some_iff.1 h.box).1).trans h.box, h.out, h.ge, h.own.later hb⟩
theorem PEnv.cells (h : PEnv S w0 w a g vo vr vh c d) : w.cell? ⟨g, 0, none⟩ = some vo ∧ w.cell? ⟨g, 1, none⟩ = some vr ∧ w.cell? ⟨g, 2, none⟩ = some vh ∧ w.frozen? ⟨g, 0, none⟩ = false ∧ w.frozen? ⟨g, 1, none⟩ = false ∧ w.frozen? ⟨g, 2, none⟩ = false := tri_cells h.box
theorem PEnv.lt (h : PEnv S w0 w a g vo vr vh c d) : ∀ k, S k → k < w.heap.size := h.obj.heap.lt
/-- What is done in the heap that counts. -/
theorem PEnv.done (h : PEnv S w0 w a g vo vr vh c d) (hw : Done w S a c' w1) (hc : KGood c') : ∃ S', PEnv S' w0 w1 a g vo vr vh c' d := by
  obtain ⟨S', h1, h2⟩ := hw
  have hgs := (Array.getElem?_eq_some_iff.1 h.box).1
  exact ⟨S', h.obj.step h1 h2 hc, (h2.block g hgs h.out).trans h.box, fun e => (h2.set g e).elim h.out (by omega), h.ge, h.own.step h2⟩
theorem Obj.setOut (h : Obj w0 w S a c) {j : Nat} (u : Value) (hg : ¬ S g) (hge : w0.heap.size ≤ g) : Obj w0 (w.setCell ⟨g, j, none⟩ u) S a c := by
  obtain ⟨⟨vo, vr, us, h1⟩, h2, h3, h4⟩ := h
  exact ⟨⟨vo, vr, us, h1.kept (by simp [World.setCell]) fun k hk => heap_setCell_other w ⟨g, j, none⟩ k u (fun e => hg (by rw [show g = k from e.symm]; exact hk))⟩, h2, h3.setCell hge _, h4⟩
/-- The document's Counted, written over. -/
theorem PEnv.set3 (h : PEnv S w0 w a g vo vr vh c d) (ho : OwnK S w 0 v1 v2 v3 d') : PEnv S w0 (((w.setCell ⟨g, 0, none⟩ v1).setCell ⟨g, 1, none⟩ v2).setCell ⟨g, 2, none⟩ v3) a g v1 v2 v3 c d' := by
  have h1 := (tri_set v1 h.box).1
  have h2 := (tri_set v2 h1).2.1
  have h3 := (tri_set v3 h2).2.2
  exact ⟨((h.obj.setOut v1 h.out h.ge).setOut v2 h.out h.ge).setOut v3 h.out h.ge, h3, h.out, h.ge, ((ho.set h.box).set h1).set h2⟩
end
end Go.Proofs.YtmibnceadciidaaDoor
