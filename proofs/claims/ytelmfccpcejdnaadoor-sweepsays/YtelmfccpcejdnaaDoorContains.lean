/- The walk of slices.Contains at a list of ints. -/
import Derived.Test.YtelmfccpcejdnaaDoorOwn
import Derived.Test.YtelmfccpcejdnaaDoorShelf
namespace Go.Proofs.YtelmfccpcejdnaaDoor
open Go.RowKit Go.Sort

theorem contains_any (v : Value) (l : List Int) (x : Int) (w : World) (hv : IsInts w v l) :
    Calls Tryd.prog 32 #[v, .int .i64 x] w fun e w' => e = .returned (.bool (l.contains x)) ∧ w' = w := by
  rcases hv with ⟨rfl, ao, cap, rfl, hcap⟩ | ⟨b, off, cap, rfl, hpos, hlc, hcap, hc⟩
  · exact Tryd.slices_Contains_int_empty ao cap x w
  · have := Tryd.slices_Contains_int b off l.length cap l x w (Nat.le_refl _) (by unfold maxLen at hcap; omega) (fun j hj => by rw [List.getD_eq_getElem?_getD]; exact hc j hj)
    rwa [List.take_length] at this
end Go.Proofs.YtelmfccpcejdnaaDoor
