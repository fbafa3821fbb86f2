/- Lists alone: where all are let go of, and what is held, by those places. -/
import Derived.Test.YtmibnceadciidaaDoorEmptied
namespace Go.Proofs.YtmibnceadciidaaDoor
open Go.RowKit

/-- At request k all that was held is let go of (or nothing was). -/
def begins (s : Nat) (l : List Int) (k : Nat) : Bool := k == 0 || (!ehit s l k && (since s l k).length == s)
def starts (s : Nat) (l : List Int) (k : Nat) : List Int := ((List.range k).filter (begins s l)).map fun i : Nat => (i : Int)
theorem starts_yes {s k : Nat} {l : List Int} (h : begins s l k = true) : starts s l (k+1) = starts s l k ++ [(k : Int)] := by
  unfold starts
  rw [List.range_succ, List.filter_append, List.map_append, List.filter_cons_of_pos h]; rfl
theorem starts_no {s k : Nat} {l : List Int} (h : begins s l k = false) : starts s l (k+1) = starts s l k := by
  unfold starts
  rw [List.range_succ, List.filter_append, List.map_append, List.filter_cons_of_neg (by rw [h]; simp)]; simp
theorem starts_le (s : Nat) (l : List Int) (k : Nat) : (starts s l k).length ≤ k := by
  unfold starts
  rw [List.length_map]
  have := List.length_filter_le (begins s l) (List.range k)
  rwa [List.length_range] at this
theorem starts_has {s n k : Nat} {l : List Int} (hk : k < n) : (starts s l n).contains (k : Int) = begins s l k := by
  rw [Bool.eq_iff_iff, List.contains_iff_mem]
  unfold starts
  rw [List.mem_map]
  constructor
  · rintro ⟨i, hi, e⟩
    rw [List.mem_filter] at hi
    have : i = k := by omega
    subst this
    exact hi.2
  · intro h
    exact ⟨k, List.mem_filter.2 ⟨List.mem_range.2 hk, h⟩, rfl⟩
theorem begins_zero (s : Nat) (l : List Int) : begins s l 0 = true := rfl
theorem begins_miss {s k : Nat} {l : List Int} (h : begins s l k = true) : ehit s l k = false := by
  unfold begins at h
  cases k with
  | zero => rfl
  | succ k => simp at h; exact h.1
theorem begins_since {s k : Nat} {l : List Int} (h : begins s l k = true) : since s l (k+1) = [l[k]?.getD 0] := by
  rw [since_miss (begins_miss h)]
  unfold letsGo
  cases k with
  | zero => split <;> simp [since]
  | succ k =>
    unfold begins at h
    simp at h
    rw [if_pos h.2]; rfl
theorem stays_since {s k : Nat} {l : List Int} (h : begins s l k = false) (hm : ehit s l k = false) : since s l (k+1) = since s l k ++ [l[k]?.getD 0] := by
  rw [since_miss hm]
  unfold letsGo
  unfold begins at h
  rw [hm] at h
  simp at h
  rw [if_neg h.2]
theorem begins_pos {s k : Nat} {l : List Int} (h : begins s l k = false) : 0 < k := by
  cases k with
  | zero => cases h
  | succ k => omega
theorem begins_full {s k : Nat} {l : List Int} (hk : 0 < k) (hm : ehit s l k = false) : begins s l k = ((since s l k).length == s) := by
  unfold begins
  rw [hm, beq_eq_false_iff_ne.2 (by omega)]; simp
theorem begins_hit {s k : Nat} {l : List Int} (hm : ehit s l k = true) : begins s l k = false := by
  unfold begins
  rw [hm]
  cases k with
  | zero => simp [ehit, since] at hm
  | succ k => simp
end Go.Proofs.YtmibnceadciidaaDoor
