/- larderwicksame.Misses where only the heap is known. -/
import Derived.Test.YtedmfehjifknbaaMisses
import Derived.Test.YtedmfehjifknbaaKeep
namespace Go.Proofs.Ytedmfehjifknbaa
open Go.RowKit Go.Sort

theorem misses_is {v : Value} {l : List Bool} {n : Nat} {w0 : World} (hv : IsBools w0 v l) (hr : missed l l.length = n) (w : World) (hh : w.heap = w0.heap) :
    Calls Try.prog 14 #[v] w fun e w' => e = .returned (.int .i64 n) ∧ w' = w := by
  have := misses_any v l w (hv.heap hh)
  rwa [hr] at this
end Go.Proofs.Ytedmfehjifknbaa
