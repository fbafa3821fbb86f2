/- What a row's listed variable (the table of math/bits) gives a walk, and a world for the row's witness. -/
import Derived.Test.YtjcikoaoemingaaDoorBFirst
import Derived.Test.YtjcikoaoemingaaDoorLawkit
import Derived.ChangeSame
import Derived.ChangeVars
import Derived.JoinedOf
import Derived.LaidLaws
import Derived.LaidHandle
import Derived.Stop.Joined
import Derived.Lib.LaidTab
namespace Go.Proofs.YtjcikoaoemingaaDoor
open Go.ChangeShapes Go.WideShapes Go.RowKit

theorem tl_own : ownKnob Tryd.prog.godebug = none := by kernel_rfl
theorem tl_laidOut : laidOutB Tryd.prog = true := by kernel_rfl
theorem tl_g : Tryd.prog.globalNamed "math/bits.deBruijn64tab" = some 1 := by kernel_rfl
theorem tl_ty : (Tryd.prog.globals[1]?).map (·.type) = some 100 := by kernel_rfl
theorem tl_data : (Rows.laid_math_bits_deBruijn64tab : DataW Unit) = Lib.tabData .u8 (Lib.deBruijn64tab.map Int.ofNat) := by kernel_rfl
theorem tab_of_met {W : World} {rest : List (String × DataW Unit)} (h : laidMet Tryd.prog (("math/bits.deBruijn64tab", Rows.laid_math_bits_deBruijn64tab) :: rest) W) : Tabbed W := by
  rw [tl_data] at h
  have hT := Lib.tabIs_of_head tl_g tl_ty Tryd.underlying100 Tryd.underlying5 (by kernel_rfl) (by kernel_rfl) h
  intro j hj
  have := hT.cell tl_g j (by rw [List.length_map]; exact hj)
  rw [this]
  simp [hj]
theorem tab_of_laid {W : World} (h : laidMetH Tryd.prog [("math/bits.deBruijn64tab", Rows.laid_math_bits_deBruijn64tab)] W) : Tabbed W := by
  have h' : laidMet Tryd.prog [("math/bits.deBruijn64tab", Rows.laid_math_bits_deBruijn64tab)] W := h
  exact tab_of_met h'

def tabRow : Array Value := (Lib.deBruijn64tab.map fun n : Nat => Value.int .u8 (n : Nat)).toArray
noncomputable def tabWorld (os : Os) : World :=
  { World.holding Tryd.prog os ⟨#[], #[], []⟩ with heap := (World.holding Tryd.prog os ⟨#[], #[], []⟩).heap.modify 1 fun
      | .cells _ t frozen => .cells tabRow t frozen
      | o => o }
theorem tabWorld_met (os : Os) (args : Array Value) : laidMetH Tryd.prog [("math/bits.deBruijn64tab", Rows.laid_math_bits_deBruijn64tab)] ((tabWorld os).forCall (fun _ _ => 0) ⟨#[], args, []⟩).memory :=
  laidMetH_of_parts (laidMet_of_run' 8 (by kernel_rfl) (by kernel_rfl)) (by kernel_rfl)
end Go.Proofs.YtjcikoaoemingaaDoor
