/- The walk of the laws' own in (larderwicklaw3); literals of one and two numbers. -/
import Derived.Test.YtmibnceadciidaaDoorKeep
namespace Go.Proofs.YtmibnceadciidaaDoor
open Go.RowKit

theorem in_range (n lo hi : Int) (w : World) :
    Calls Tryd.prog 5 #[.int .i64 n, .int .i64 lo, .int .i64 hi] w fun e w' => e = .returned (.bool (decide (lo ≤ n) && decide (n ≤ hi))) ∧ w' = w := by
  go_enter Tryd.func5, Tryd.ntmps5
  go_wp2
  all_goals go_ret
  all_goals (refine ⟨?_, rfl⟩; refine congrArg Ending.returned ?_; show Value.bool _ = _; congr 1; simp_all; try omega)
theorem one_new (w : World) (x : Int) : IsInts (w.alloc (.cells #[.int .i64 x] 3)) (.slice (some ⟨w.heap.size, 0, none⟩) 1 1) [x] :=
  isInts_new (l := [x]) (t := 3) (cur := #[.int .i64 x]) rfl (by simp) (heap_alloc_new _ _)
theorem two_new (w : World) (x y : Int) : IsInts (w.alloc (.cells #[.int .i64 x, .int .i64 y] 3)) (.slice (some ⟨w.heap.size, 0, none⟩) 2 2) [x, y] :=
  isInts_new (l := [x, y]) (t := 3) (cur := #[.int .i64 x, .int .i64 y]) rfl (by simp) (heap_alloc_new _ _)
end Go.Proofs.YtmibnceadciidaaDoor
