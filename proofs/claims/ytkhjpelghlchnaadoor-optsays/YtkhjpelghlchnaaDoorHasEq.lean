/- Whether a number is in a list, by the answer. -/
import Derived.Test.YtkhjpelghlchnaaDoorTri
import Derived.Test.YtkhjpelghlchnaaDoorRef1
namespace Go.Proofs.YtkhjpelghlchnaaDoor
open Go.RowKit Go.Sort
theorem has_eq {v : Value} {l : List Int} {x : Int} {r : Bool} {w : World} (hv : IsInts w v l) (hr : l.contains x = r) :
    Calls Tryd.prog 12 #[v, .int .i64 x] w fun e w' => e = .returned (.bool r) ∧ w' = w := by
  subst hr; exact has_any v l x w hv
end Go.Proofs.YtkhjpelghlchnaaDoor
