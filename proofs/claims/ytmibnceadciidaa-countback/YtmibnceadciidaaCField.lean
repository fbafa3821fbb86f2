/- A field of a heap that is a value. -/
import Derived.Test.YtmibnceadciidaaHeapI
namespace Go.Proofs.Ytmibnceadciidaa
open Go.RowKit

theorem field_outs (v0 v1 : Value) (W : World) : (Instr.field 28 (.agg #[v0, v1]) 0).run Try.prog W = .ok v0 W := by
  simp [Instr.field, Sem.run_bind, asAgg, part, go_sem, isAgg]
theorem field_roots (v0 v1 : Value) (W : World) : (Instr.field 28 (.agg #[v0, v1]) 1).run Try.prog W = .ok v1 W := by
  simp [Instr.field, Sem.run_bind, asAgg, part, go_sem, isAgg]
end Go.Proofs.Ytmibnceadciidaa
