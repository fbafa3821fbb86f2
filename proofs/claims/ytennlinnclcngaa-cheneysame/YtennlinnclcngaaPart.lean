/- A part of a slice of ints. -/
import Derived.Test.YtennlinnclcngaaKeep
namespace Go.Proofs.Ytennlinnclcngaa
open Go.RowKit Go.Sort
/-- A part of a slice. -/
theorem isInts_part {w : World} {b off cap f k : Nat} {l : List Int} (h : IsInts w (.slice (some ⟨b, off, none⟩) l.length cap) l) (hf : f ≤ k) (hk : k ≤ l.length) : IsInts w (.slice (some ⟨b, off + f, none⟩) (k - f) (cap - f)) ((l.take k).drop f) :=
  isInts_drop (isInts_prefix h rfl hk) (by rw [List.length_take]; omega) hf fun y hy _ => by cases hy; rfl
theorem IsInts.form {w : World} {v : Value} {l : List Int} (h : IsInts w v l) : ∃ ao cap, v = .slice ao l.length cap := by
  rcases h with ⟨rfl, ao, cap, hv, _⟩ | ⟨b, off, cap, hv, _⟩
  · exact ⟨ao, cap, hv⟩
  · exact ⟨_, cap, hv⟩
end Go.Proofs.Ytennlinnclcngaa
