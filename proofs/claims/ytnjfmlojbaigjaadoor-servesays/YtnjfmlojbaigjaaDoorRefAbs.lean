/- The walk of the document's answer (larderwickref1): Abs. -/
import Derived.Test.YtnjfmlojbaigjaaDoorServers
import Derived.Test.YtnjfmlojbaigjaaDoorBase
namespace Go.Proofs.YtnjfmlojbaigjaaDoor
open Go.RowKit

theorem abs_any (a b : Int) (ha : -1000 ≤ a ∧ a ≤ 1000) (hb : -1000 ≤ b ∧ b ≤ 1000) (w : World) : Calls Tryd.prog 19 #[.int .i64 a, .int .i64 b] w fun e w' => e = .returned (.int .i64 (zabs (a - b))) ∧ w' = w := by
  have w1 : IntKind.i64.wrap (a - b) = a - b := by rw [IntKind.wrap_i64]; omega
  have w2 : IntKind.i64.wrap (b - a) = b - a := by rw [IntKind.wrap_i64]; omega
  by_cases h : b < a
  · have HZ : Hid (zabs (a - b) = a - b) := by unfold Hid zabs; omega
    go_enter Tryd.func19, Tryd.ntmps19
    go_wp2
    go_ret
    exact ⟨by rw [HZ.out]; rfl, rfl⟩
  · have HZ : Hid (zabs (a - b) = b - a) := by unfold Hid zabs; omega
    go_enter Tryd.func19, Tryd.ntmps19
    go_wp2
    go_ret
    exact ⟨by rw [HZ.out]; rfl, rfl⟩
end Go.Proofs.YtnjfmlojbaigjaaDoor
