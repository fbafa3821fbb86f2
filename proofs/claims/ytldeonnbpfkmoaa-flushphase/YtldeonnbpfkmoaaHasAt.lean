/- larderwickref1.Has where only the heap is known; a part of a slice. -/
import Derived.Test.YtldeonnbpfkmoaaHas
import Derived.Test.YtldeonnbpfkmoaaKeep
namespace Go.Proofs.Ytldeonnbpfkmoaa
open Go.RowKit Go.Sort

theorem has_at {v : Value} {l : List Int} {x : Int} {r : Bool} {w0 : World} (hv : IsInts w0 v l) (hr : l.contains x = r) (w : World) (hh : w.heap = w0.heap) :
    Calls Try.prog 11 #[v, .int .i64 x] w fun e w' => e = .returned (.bool r) ∧ w' = w := by
  subst hr; exact has_any v l x w (hv.heap hh)
/-- A part of a slice. -/
theorem isInts_part {w : World} {b off cap f k : Nat} {l : List Int} (h : IsInts w (.slice (some ⟨b, off, none⟩) l.length cap) l) (hf : f ≤ k) (hk : k ≤ l.length) : IsInts w (.slice (some ⟨b, off + f, none⟩) (k - f) (cap - f)) ((l.take k).drop f) :=
  isInts_drop (isInts_prefix h rfl hk) (by rw [List.length_take]; omega) hf fun y hy _ => by cases hy; rfl
end Go.Proofs.Ytldeonnbpfkmoaa
