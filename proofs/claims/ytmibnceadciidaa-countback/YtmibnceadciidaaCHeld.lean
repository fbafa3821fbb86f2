/- A heap that was told, beside the heap that counts: plain lemmas on worlds. -/
import Derived.Test.YtmibnceadciidaaCStep
namespace Go.Proofs.Ytmibnceadciidaa
set_option maxRecDepth 100000
open Go.RowKit Go.Sort

/-- Rows and roots in a box, all of it outside S. -/
structure Told3 (S : Nat → Prop) (w : World) (g : Nat) (vo vr : Value) (X : List (List Int)) (R : List Int) : Prop where
  box : w.heap[g]? = some (.cells #[vo, vr] 28 (0, 0))
  out : ¬ S g
  rows : OwnX S w 0 vo X
  ints : OwnI w 0 vr R
  intsO : Out S vr
section
variable {S S' : Nat → Prop} {w w1 : World} {g a : Nat} {vo vr : Value} {X : List (List Int)} {R : List Int} {c : KS}
theorem Told3.step (h : Told3 S w g vo vr X R) (hs : Stp S S' w w1) : Told3 S' w1 g vo vr X R := by
  have hg := (Array.getElem?_eq_some_iff.1 h.box).1
  have hi := hs.row h.ints h.intsO
  exact ⟨(hs.block g hg h.out).trans h.box, fun e => (hs.set g e).elim h.out (by omega), h.rows.step hs, hi.1, hi.2⟩
theorem Told3.later (h : Told3 S w g vo vr X R) (hb : Below w.heap.size w w1) : Told3 S w1 g vo vr X R := h.step (Stp.later S hb)
theorem Told3.new {B : Nat} (hl : ∀ k, S k → k < B) (hB : B ≤ w.heap.size) (h1 : OwnR w B vo X) (h2 : OwnI w B vr R) : Told3 S (w.alloc (.cells #[vo, vr] 28)) w.heap.size vo vr X R := by
  have hb : Below w.heap.size w (w.alloc (.cells #[vo, vr] 28)) := (Below.refl _ w).alloc (Nat.le_refl _) _
  have h3 : OwnX S w B vo X := OwnX.new h1 hl
  have h4 := Out.new h2 hl
  have h5 : OwnX S w 0 vo X := by
    obtain ⟨us, a1, a2, a3, a4⟩ := h3
    exact ⟨us, a1, ownsRow_mono a2 (Nat.zero_le _), a3, fun j u hj => ⟨ownI_mono (a4 j u hj).1 (Nat.zero_le _), (a4 j u hj).2⟩⟩
  exact ⟨heap_alloc_new w _, fun e => by have := hl _ e; omega, h5.step (Stp.later S hb), (ownI_mono h2 (Nat.zero_le _)).later hb, h4⟩
theorem Told3.cells (h : Told3 S w g vo vr X R) : w.cell? ⟨g, 0, none⟩ = some vo ∧ w.cell? ⟨g, 1, none⟩ = some vr := ⟨(box_cells h.box).1, (box_cells h.box).2.1⟩
theorem Told3.isHeap (h : Told3 S w g vo vr X R) : IsHeap w (.agg #[vo, vr]) X R := ⟨_, _, rfl, h.rows.ownR.isRows, h.ints.isInts⟩
theorem Told3.forms {n m : Nat} (h : Told3 S w g vo vr X R) (hn : X.length = n) (hm : R.length = m) : ∃ ao co ar cr, vo = .slice ao n co ∧ vr = .slice ar m cr ∧ co ≤ 9223372036854775807 ∧ cr ≤ 9223372036854775807 := by
  subst hn
  subst hm
  obtain ⟨ao, co, rfl, hco, _⟩ := h.rows.ownR.isRows
  obtain ⟨ar, cr, rfl, hcr, _⟩ := h.ints.isInts.opened
  exact ⟨ao, co, ar, cr, rfl, rfl, hco, hcr⟩
/-- An operation, and all that stands beside. -/
theorem Obj.both {w0 : World} {d : KS} (h : Obj w0 w S a c) (ht : Told3 S w g vo vr X R) (hw : Done w S a d w1) (hd : KGood d) : ∃ S', Obj w0 w1 S' a d ∧ Told3 S' w1 g vo vr X R := by
  obtain ⟨S', h1, h2⟩ := hw
  exact ⟨S', h.step h1 h2 hd, ht.step h2⟩
end
end Go.Proofs.Ytmibnceadciidaa
