/- The walk of WsetSays: for every list of requests and every window, in whatever memory and on every schedule, it returns true and leaves its argument as it was: wset.Check, wset.Sets and wset.Miss answer as the document says. -/
import Derived.Test.YtbnhlnjbgimibaaDoorWsetSaysO
import Derived.Test.YtbnhlnjbgimibaaDoorWsetSaysE
namespace Go.Proofs.YtbnhlnjbgimibaaDoor
open Go.RowKit Go.Sort

theorem says_any (v : Value) (l : List Int) (win : Int) (w : World) (hv : IsInts w v l) (hform : ∃ ao cap, v = .slice ao l.length cap) (hg : Handle w) :
    Calls Tryd.prog 3 #[v, .int .i64 win] w fun e w' => e = .returned (.bool true) ∧ Below w.heap.size w w' := by
  by_cases hc : wchk l win = 0
  · exact says_ok v l win w hv hform hg hc
  · exact says_err v l win w hv hform hg hc
end Go.Proofs.YtbnhlnjbgimibaaDoor
