/- The walk of slices.Index at a list of ints. -/
import Derived.Test.YtmibnceadciidaaDoorAt
import Derived.Test.YtmibnceadciidaaDoorShelf
namespace Go.Proofs.YtmibnceadciidaaDoor
open Go.RowKit Go.Sort

theorem index_any (v : Value) (l : List Int) (x : Int) (w : World) (hv : IsInts w v l) :
    Calls Tryd.prog 33 #[v, .int .i64 x] w fun e w' => e = .returned (.int .i64 (at_ l x)) ∧ w' = w := by
  rcases hv with ⟨rfl, ao, cap, rfl, hcap⟩ | ⟨b, off, cap, rfl, hpos, hlc, hcap, hc⟩
  · exact Tryd.slices_Index_int_empty ao cap x w
  · exact Tryd.slices_Index_int b off l.length cap l x w (Nat.le_refl _) (by unfold maxLen at hcap; omega) (fun j hj => by rw [List.getD_eq_getElem?_getD]; exact hc j hj)
end Go.Proofs.YtmibnceadciidaaDoor
