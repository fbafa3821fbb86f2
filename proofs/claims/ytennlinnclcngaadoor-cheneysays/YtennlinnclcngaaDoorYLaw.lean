/- Lists alone, for chapter 19: the copy of a fine heap is fine; copied again it is as it is. -/
import Derived.Test.YtennlinnclcngaaDoorBfsL
import Derived.Test.YtennlinnclcngaaDoorInnL
namespace Go.Proofs.YtennlinnclcngaaDoor

theorem shut_fine {L : List (List Int)} {R N : List Int} (hf : FineH L R) (hs : Shut L R N) (hI : Inn L N) : FineH (anewO L N) (R.map (plc N)) := by
  have hN := hI.few
  have hl := anew_length L N
  refine ⟨by rw [hl]; have := hf.few; omega, by rw [List.length_map]; exact hf.roots, fun x hx => ?_, fun r hr => ?_, fun r hr x hx => ?_⟩
  · obtain ⟨y, hy, rfl⟩ := List.mem_map.1 hx
    rw [hl]
    exact plc_lt (hs.root y hy)
  · obtain ⟨y, hy, rfl⟩ := List.mem_map.1 hr
    rw [List.length_map]
    have hyl := hI.2 y hy
    have e : gOf L y = L[y.toNat]?.getD [] := by unfold gOf; rw [if_pos hyl.1]
    rw [e, List.getElem?_eq_getElem (by omega)]
    exact hf.outs _ (List.getElem_mem _)
  · obtain ⟨y, hy, rfl⟩ := List.mem_map.1 hr
    obtain ⟨z, hz, rfl⟩ := List.mem_map.1 hx
    rw [hl]
    exact plc_lt (hs.outs y hy z hz)
theorem IsFrom.inn {L : List (List Int)} {R A : List Int} (hf : FineH L R) (h : IsFrom (gOf L) R A) : Inn L A := ⟨h.mem.1, fun x hx => hf.come hf.root ((h.mem.2 x).1 hx)⟩
/-- The copy's copy. -/
theorem twice_same {L : List (List Int)} {R A M : List Int} (h : IsFrom (gOf L) R A) (h2 : IsFrom (gOf (anewO L A)) (R.map (plc A)) M) : M = upTo A.length ∧ anewO (anewO L A) (upTo A.length) = anewO L A ∧ (R.map (plc A)).map (plc (upTo A.length)) = R.map (plc A) := by
  have hs : Shut (anewO L A) (R.map (plc A)) (upTo (anewO L A).length) := by rw [anew_length]; exact anew_shut (from_shut h)
  have := anew_same hs
  rw [anew_length] at this
  exact ⟨h2.det (copy_twice h (from_shut h)), this⟩
end Go.Proofs.YtennlinnclcngaaDoor
