/- What a row's two listed variables (the table of math/bits, errors.errorType) give a walk, and a world for the row's witness. -/
import Derived.Test.YtmmeapaakdaemaaDoorTabLaid
import Derived.Test.YtmmeapaakdaemaaDoorTold
namespace Go.Proofs.YtmmeapaakdaemaaDoor
open Go.ChangeShapes Go.WideShapes Go.RowKit

theorem ld_own : ownKnob Tryd.prog.godebug = none := tl_own
theorem ld_laidOut : laidOutB Tryd.prog = true := tl_laidOut
theorem ld_et : Tryd.prog.globalNamed "errors.errorType" = some 1 := by kernel_rfl
theorem ld_rt : (Tryd.prog.cutTypes.find? (·.1 == "internal/reflectlite.rtype")).map (·.2) = some 105 := by kernel_rfl
theorem ld_oneRow : ((List.range 155).filter fun t => Tryd.prog.rowNamed t [101, 114, 114, 111, 114]) = [33] := by kernel_rfl
theorem ld_size : Tryd.prog.types.size = 155 := by kernel_rfl

theorem both_of_laid {W : World} (h : laidMetH Tryd.prog [("math/bits.deBruijn64tab", Rows.laid_math_bits_deBruijn64tab), ("errors.errorType", Rows.laid_errors_errorType)] W) : Tabbed W ∧ Handle W := by
  have h' : laidMet Tryd.prog [("math/bits.deBruijn64tab", Rows.laid_math_bits_deBruijn64tab)] W ∧ handlesMet Tryd.prog [("errors.errorType", Rows.laid_errors_errorType)] W := h
  refine ⟨tab_of_met h'.1, ?_⟩
  obtain ⟨name, u, ty, e1, e2, e3, e4, e5⟩ := h'.2 _ (List.mem_singleton.2 rfl)
  have en : name = [101, 114, 114, 111, 114] := (Option.some.inj e1).symm
  subst en
  obtain rfl := Option.some.inj (ld_rt.symm.trans e2)
  have hm : ty ∈ (List.range 155).filter fun t => Tryd.prog.rowNamed t [101, 114, 114, 111, 114] := List.mem_filter.2 ⟨List.mem_range.2 (by rw [← ld_size]; exact e3), e4⟩
  rw [ld_oneRow] at hm
  obtain rfl := List.mem_singleton.1 hm
  have hh : typeHandle Tryd.prog 33 = .pointer (some ⟨2, 33, none⟩) := by kernel_rfl
  rw [hh] at e5
  unfold Handle
  simpa using World.var?_cell ld_et e5 0

noncomputable def bothWorld (os : Os) : World :=
  { tabWorld os with heap := (tabWorld os).heap.modify 1 fun
      | .cells _ t frozen => .cells #[.iface 105 (.agg #[.pointer (some ⟨2, 33, none⟩)])] t frozen
      | o => o }
theorem bothWorld_met (os : Os) (args : Array Value) : laidMetH Tryd.prog [("math/bits.deBruijn64tab", Rows.laid_math_bits_deBruijn64tab), ("errors.errorType", Rows.laid_errors_errorType)] ((bothWorld os).forCall (fun _ _ => 0) ⟨#[], args, []⟩).memory :=
  laidMetH_of_parts (laidMet_of_run' 8 (by kernel_rfl) (by kernel_rfl)) (by kernel_rfl)
end Go.Proofs.YtmmeapaakdaemaaDoor
