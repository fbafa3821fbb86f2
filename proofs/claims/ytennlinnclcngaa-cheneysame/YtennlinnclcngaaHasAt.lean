/- larderwickref1.Has where only the heap is known. -/
import Derived.Test.YtennlinnclcngaaHas
import Derived.Test.YtennlinnclcngaaPart
namespace Go.Proofs.Ytennlinnclcngaa
open Go.RowKit Go.Sort

theorem has_at {v : Value} {l : List Int} {x : Int} {r : Bool} {w0 : World} (hv : IsInts w0 v l) (hr : l.contains x = r) (w : World) (hh : w.heap = w0.heap) :
    Calls Try.prog 9 #[v, .int .i64 x] w fun e w' => e = .returned (.bool r) ∧ w' = w := by
  subst hr; exact has_any v l x w (hv.heap hh)
end Go.Proofs.Ytennlinnclcngaa
