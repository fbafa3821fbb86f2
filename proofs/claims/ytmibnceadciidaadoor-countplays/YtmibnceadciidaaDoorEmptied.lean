/- Lists alone: the pages as they came since all were let go of. -/
import Derived.Test.YtmibnceadciidaaDoorKeep
namespace Go.Proofs.YtmibnceadciidaaDoor
open Go.RowKit

/-- A page that is not held comes in: where no slot is free, all go. -/
def letsGo (s : Nat) (held : List Int) (p : Int) : List Int := (if held.length = s then [] else held) ++ [p]

/-- The pages behind k requests. -/
def since (s : Nat) (l : List Int) : Nat → List Int
  | 0 => []
  | k + 1 => if (since s l k).contains (l[k]?.getD 0) then since s l k else letsGo s (since s l k) (l[k]?.getD 0)
def ehit (s : Nat) (l : List Int) (k : Nat) : Bool := (since s l k).contains (l[k]?.getD 0)
theorem since_hit {s k : Nat} {l : List Int} (h : ehit s l k = true) : since s l (k+1) = since s l k := by
  rw [since]; exact if_pos h
theorem since_miss {s k : Nat} {l : List Int} (h : ehit s l k = false) : since s l (k+1) = letsGo s (since s l k) (l[k]?.getD 0) := by
  rw [since]; exact if_neg (by unfold ehit at h; rw [h]; simp)
theorem since_le {s : Nat} (hs : 1 ≤ s) (l : List Int) : ∀ k, (since s l k).length ≤ s
  | 0 => by simp [since]
  | k + 1 => by
    have := since_le hs l k
    rw [since]; split
    · omega
    · unfold letsGo
      rw [List.length_append, List.length_singleton]
      split
      · simp; omega
      · omega

def flushB (l : List Int) (s : Int) : List Bool := if chk l s = 0 then marks (ehit s.toNat l) l.length else []
def flushL (l : List Int) (s : Int) : List Int := if chk l s = 0 then since s.toNat l l.length else []
theorem flushB_ok {l : List Int} {s : Int} (h : chk l s = 0) : flushB l s = marks (ehit s.toNat l) l.length := if_pos h
theorem flushL_ok {l : List Int} {s : Int} (h : chk l s = 0) : flushL l s = since s.toNat l l.length := if_pos h
theorem flushB_bad {l : List Int} {s : Int} (h : chk l s ≠ 0) : flushB l s = [] := if_neg h
theorem flushL_bad {l : List Int} {s : Int} (h : chk l s ≠ 0) : flushL l s = [] := if_neg h
end Go.Proofs.YtmibnceadciidaaDoor
