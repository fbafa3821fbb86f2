/- larderwicksame.Some where only the heap is known. -/
import Derived.Test.YtbnhlnjbgimibaaSome
import Derived.Test.YtbnhlnjbgimibaaKeep
namespace Go.Proofs.Ytbnhlnjbgimibaa
open Go.RowKit Go.Sort

theorem some_is {v : Value} {l : List Int} {n : Nat} {w0 : World} (hv : IsInts w0 v l) (hr : firsts l l.length = n) (w : World) (hh : w.heap = w0.heap) :
    Calls Try.prog 10 #[v] w fun e w' => e = .returned (.int .i64 n) ∧ ∃ q, w' = w.drewN q := by
  have := some_any v l w (hv.heap hh)
  rwa [hr] at this
end Go.Proofs.Ytbnhlnjbgimibaa
