/- Nodes of a heap, none of them twice; a row of numbers, opened at a place. -/
import Derived.Test.YtmibnceadciidaaDoorHeapI
import Derived.Test.YtmibnceadciidaaDoorLists
namespace Go.Proofs.YtmibnceadciidaaDoor
set_option maxRecDepth 100000
open Go.RowKit Go.Sort

theorem IsInts.open_at {w : World} {ao : Option Addr} {n cap k : Nat} {l : List Int} (h : IsInts w (.slice ao n cap) l) (hk : k < l.length) : ∃ b off, ao = some ⟨b, off, none⟩ ∧ l.length ≤ cap ∧ b < w.heap.size ∧ ∀ j, j < l.length → w.cell? ⟨b, off + j, none⟩ = some (.int .i64 (l[j]?.getD 0)) := by
  obtain ⟨ao', cap', e, _, ho⟩ := h.opened
  simp only [Value.slice.injEq] at e
  obtain ⟨rfl, rfl, rfl⟩ := e
  exact ho k hk
/-- Nodes of a heap, none of them twice. -/
def Inn (L : List (List Int)) (A : List Int) : Prop := A.Nodup ∧ ∀ y, y ∈ A → 0 ≤ y ∧ y < L.length
theorem inn_nil (L : List (List Int)) : Inn L [] := ⟨by simp, by simp⟩
theorem Inn.few {L : List (List Int)} {A : List Int} (h : Inn L A) : A.length ≤ L.length := by
  have := length_le_of_subset h.1 fun p hp => upTo_mem.2 (h.2 p hp)
  rwa [upTo_length] at this
theorem Inn.add {L : List (List Int)} {A : List Int} (h : Inn L A) {x : Int} (hx : 0 ≤ x ∧ x < L.length) (hA : x ∉ A) : Inn L (A ++ [x]) := by
  refine ⟨List.nodup_append.2 ⟨h.1, by simp, fun a ha b hb => ?_⟩, fun y hy => ?_⟩
  · rw [List.mem_singleton] at hb
    rintro rfl
    exact hA (hb ▸ ha)
  · rcases List.mem_append.1 hy with hy | hy
    · exact h.2 y hy
    · rw [List.mem_singleton] at hy; rw [hy]; exact hx
end Go.Proofs.YtmibnceadciidaaDoor
