/- Cells of a row of ints of one's own whose length is known by another name. -/
import Derived.Test.YtmibnceadciidaaOwn
namespace Go.Proofs.Ytmibnceadciidaa
open Go.RowKit Go.Sort

theorem OwnI.cellN {w : World} {base n g cap j : Nat} {l : List Int} (h : OwnI w base (.slice (some ⟨g, 0, none⟩) n cap) l) (hn : l.length = n) (hj : j < n) : w.cell? ⟨g, j, none⟩ = some (.int .i64 (l[j]?.getD 0)) := by
  subst hn
  rw [World.ownsRow.cellAt h j (by omega), List.getElem?_map, List.getElem?_eq_getElem hj]; rfl
theorem OwnI.softN {w : World} {base n g cap : Nat} {l : List Int} (h : OwnI w base (.slice (some ⟨g, 0, none⟩) n cap) l) (hn : l.length = n) (j : Nat) : w.frozen? ⟨g, j, none⟩ = false := by
  subst hn
  exact World.ownsRow.frozenAt h j

end Go.Proofs.Ytmibnceadciidaa
