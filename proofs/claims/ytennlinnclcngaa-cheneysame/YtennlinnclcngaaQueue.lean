/- Lists alone: the pages in the order of coming, and those that came last. -/
import Derived.Test.YtennlinnclcngaaKeep
namespace Go.Proofs.Ytennlinnclcngaa
open Go.RowKit

/-- The last s of a list. -/
def lastn (s : Nat) (c : List Int) : List Int := c.drop (c.length - s)
theorem lastn_length (s : Nat) (c : List Int) : (lastn s c).length = min s c.length := by unfold lastn; rw [List.length_drop]; omega
theorem lastn_nil (s : Nat) : lastn s [] = [] := by simp [lastn]
theorem lastn_snoc {s : Nat} (hs : 1 ≤ s) (c : List Int) (p : Int) : lastn s (c ++ [p]) = (if (lastn s c).length = s then (lastn s c).drop 1 else lastn s c) ++ [p] := by
  have hl := lastn_length s c
  unfold lastn at hl ⊢
  rw [List.length_append, List.length_singleton]
  split
  · rw [List.drop_drop, List.drop_append_of_le_length (by omega), show c.length + 1 - s = c.length - s + 1 by omega]
  · rw [show c.length + 1 - s = 0 by omega, show c.length - s = 0 by omega]; simp

/-- What came, of the first k requests, in the order of coming. -/
def came (s : Nat) (l : List Int) : Nat → List Int
  | 0 => []
  | k + 1 => if (lastn s (came s l k)).contains (l[k]?.getD 0) then came s l k else came s l k ++ [l[k]?.getD 0]
def fhit (s : Nat) (l : List Int) (k : Nat) : Bool := (lastn s (came s l k)).contains (l[k]?.getD 0)
theorem came_hit {s k : Nat} {l : List Int} (h : fhit s l k = true) : came s l (k+1) = came s l k := by
  rw [came]; exact if_pos h
theorem came_miss {s k : Nat} {l : List Int} (h : fhit s l k = false) : came s l (k+1) = came s l k ++ [l[k]?.getD 0] := by
  rw [came]; exact if_neg (by unfold fhit at h; rw [h]; simp)
theorem came_le (s : Nat) (l : List Int) : ∀ k, (came s l k).length ≤ k
  | 0 => by simp [came]
  | k + 1 => by
    have := came_le s l k
    rw [came]; split
    · omega
    · simp; omega

/-- A page that is not held comes in. -/
def comesIn (s : Nat) (held : List Int) (p : Int) : List Int := (if held.length = s then held.drop 1 else held) ++ [p]
theorem held_hit {s k : Nat} {l : List Int} (h : fhit s l k = true) : lastn s (came s l (k+1)) = lastn s (came s l k) := by rw [came_hit h]
theorem held_miss {s k : Nat} {l : List Int} (hs : 1 ≤ s) (h : fhit s l k = false) : lastn s (came s l (k+1)) = comesIn s (lastn s (came s l k)) (l[k]?.getD 0) := by
  rw [came_miss h, lastn_snoc hs]; rfl

def fifoB (l : List Int) (s : Int) : List Bool := if chk l s = 0 then marks (fhit s.toNat l) l.length else []
def fifoL (l : List Int) (s : Int) : List Int := if chk l s = 0 then lastn s.toNat (came s.toNat l l.length) else []
theorem fifoB_ok {l : List Int} {s : Int} (h : chk l s = 0) : fifoB l s = marks (fhit s.toNat l) l.length := if_pos h
theorem fifoL_ok {l : List Int} {s : Int} (h : chk l s = 0) : fifoL l s = lastn s.toNat (came s.toNat l l.length) := if_pos h
theorem fifoB_bad {l : List Int} {s : Int} (h : chk l s ≠ 0) : fifoB l s = [] := if_neg h
theorem fifoL_bad {l : List Int} {s : Int} (h : chk l s ≠ 0) : fifoL l s = [] := if_neg h
end Go.Proofs.Ytennlinnclcngaa
