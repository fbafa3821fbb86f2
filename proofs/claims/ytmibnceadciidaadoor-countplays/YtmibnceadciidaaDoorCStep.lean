/- A heap that counts, new since some world; what rows of steps do. -/
import Derived.Test.YtmibnceadciidaaDoorCLink
import Derived.Test.YtmibnceadciidaaDoorCMake
import Derived.Test.YtmibnceadciidaaDoorCHere
namespace Go.Proofs.YtmibnceadciidaaDoor
set_option maxRecDepth 100000
open Go.RowKit Go.Sort

/-- The heap that counts, in blocks that are new since w0. -/
structure Obj (w0 w : World) (S : Nat → Prop) (a : Nat) (c : KS) : Prop where
  heap : CHeap w S a c
  ge : ∀ k, S k → w0.heap.size ≤ k
  below : Below w0.heap.size w0 w
  good : KGood c
section
variable {w0 w w1 : World} {S S' : Nat → Prop} {a : Nat} {c d : KS}
theorem Obj.later (h : Obj w0 w S a c) (hb : Below w.heap.size w w1) : Obj w0 w1 S a c := ⟨h.heap.later hb, h.ge, h.below.trans (hb.mono h.below.size), h.good⟩
theorem Obj.step (h : Obj w0 w S a c) (hw : CHeap w1 S' a d) (hs : Stp S S' w w1) (hd : KGood d) : Obj w0 w1 S' a d := by
  have hz := h.below.size
  refine ⟨hw, fun k hk => ?_, ?_, hd⟩
  · rcases hs.set k hk with e | e
    · exact h.ge k e
    · omega
  · exact h.below.trans (hs.below hz h.ge)
theorem Obj.done (h : Obj w0 w S a c) (hw : Done w S a d w1) (hd : KGood d) : ∃ S', Obj w0 w1 S' a d := by
  obtain ⟨S', h1, h2⟩ := hw
  exact ⟨S', h.step h1 h2 hd⟩
end
/-- What one row of steps does. -/
def at3 (l : List Int) (i : Nat) : Int := l[i]?.getD 0
def stepK (c : KS) (l : List Int) : KS :=
  if l.length = 3 ∧ 0 ≤ at3 l 0 ∧ at3 l 0 ≤ 4 then (c.doK (at3 l 0) (at3 l 1) (at3 l 2)).1 else c
def cntTo (L : List (List Int)) : Nat → KS
  | 0 => ⟨[], [], []⟩
  | k + 1 => stepK (cntTo L k) (rowAt L k)
def cntK (L : List (List Int)) : KS := cntTo L (min 60 L.length)
theorem stepK_good {c : KS} (h : KGood c) (l : List Int) : KGood (stepK c l) := by
  unfold stepK
  split
  · exact do_good h _ _ _
  · exact h
theorem cntTo_good (L : List (List Int)) : ∀ k, KGood (cntTo L k)
  | 0 => start_good
  | k + 1 => stepK_good (cntTo_good L k) _
theorem cntK_good (L : List (List Int)) : KGood (cntK L) := cntTo_good L _
end Go.Proofs.YtmibnceadciidaaDoor
