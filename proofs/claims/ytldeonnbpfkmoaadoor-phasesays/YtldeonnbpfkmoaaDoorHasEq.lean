/- Whether a number is in a list, by the answer. -/
import Derived.Test.YtldeonnbpfkmoaaDoorTri
import Derived.Test.YtldeonnbpfkmoaaDoorRef1
namespace Go.Proofs.YtldeonnbpfkmoaaDoor
open Go.RowKit Go.Sort
theorem has_eq {v : Value} {l : List Int} {x : Int} {r : Bool} {w : World} (hv : IsInts w v l) (hr : l.contains x = r) :
    Calls Tryd.prog 11 #[v, .int .i64 x] w fun e w' => e = .returned (.bool r) ∧ w' = w := by
  subst hr; exact has_any v l x w hv
end Go.Proofs.YtldeonnbpfkmoaaDoor
