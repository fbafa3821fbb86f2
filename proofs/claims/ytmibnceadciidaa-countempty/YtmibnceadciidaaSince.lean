/- What is kept within a region that draws and lays memory: plain lemmas on worlds. -/
import Derived.Test.YtmibnceadciidaaHeapI
import Derived.Deep.RegionHeld3
namespace Go.Proofs.Ytmibnceadciidaa
open Go.RowKit Go.Sort

theorem kept_drew {w0 W : World} {B : Nat} (h : Hid (Below B w0 W)) : Hid (Below B w0 W.drew) := h.out.drew
theorem kept_start (w0 : World) : Hid (Below w0.heap.size w0 w0) := Below.refl _ _
theorem kept_cell {w0 W : World} {b j : Nat} {u : Value} (h0 : w0.cell? ⟨b, j, none⟩ = some u) (h : Hid (Below w0.heap.size w0 W)) : W.cell? ⟨b, j, none⟩ = some u :=
  (h.out.cell (p := ⟨b, j, none⟩) (World.block_lt_of_cell? w0 _ h0)).trans h0
end Go.Proofs.Ytmibnceadciidaa
