/- Plain words for slices of ints in a world: no function of the seat's program is named here. -/
import Derived.Test.YtmibnceadciidaaDoorRows
import Derived.WalkKit
import Derived.WalkSpells
namespace Go.Proofs.YtmibnceadciidaaDoor
open Go.RowKit

/-- v is a slice of ints that holds the numbers l in the world w. -/
def IsInts (w : World) (v : Value) (l : List Int) : Prop :=
  (l = [] ∧ ∃ ao cap, v = .slice ao 0 cap ∧ cap ≤ maxLen) ∨
  ∃ b off cap, v = .slice (some ⟨b, off, none⟩) l.length cap ∧ 0 < l.length ∧ l.length ≤ cap ∧ cap ≤ maxLen ∧
    ∀ j, j < l.length → w.cell? ⟨b, off + j, none⟩ = some (.int .i64 (l[j]?.getD 0))

def errV (n : Nat) : Value := if n = 0 then .nilIface else .iface 57 (.int .i64 n)

def bad (p : Int) : Bool := decide (p < 0) || decide (16 ≤ p)
def chk (l : List Int) (s : Int) : Nat :=
  if 40 < l.length then 4 else if l.any bad then 1 else if s < 1 ∨ 8 < s then 1 else 0

/-- How many numbers of l are the first of their like, of the first k. -/
def firsts (l : List Int) (k : Nat) : Nat := ((List.range k).filter fun i => !(l.take i).contains (l[i]?.getD 0)).length

theorem firsts_succ (l : List Int) (k : Nat) : firsts l (k + 1) = firsts l k + (if (l.take k).contains (l[k]?.getD 0) then 0 else 1) := by
  unfold firsts
  rw [List.range_succ, List.filter_append, List.length_append]
  cases h : (l.take k).contains (l[k]?.getD 0) <;> simp_all
theorem firsts_le (l : List Int) (k : Nat) : firsts l k ≤ k := by
  unfold firsts
  have := List.length_filter_le (fun i => !(l.take i).contains (l[i]?.getD 0)) (List.range k)
  simpa using this

theorem contains_take_succ {l : List Int} {k : Nat} (h : k < l.length) (x : Int) : (l.take (k+1)).contains x = ((l.take k).contains x || (l[k]?.getD 0 == x)) := by
  rw [List.take_succ_eq_append_getElem h, List.getElem?_eq_getElem h, Bool.eq_iff_iff]
  simp only [List.contains_iff_mem, List.mem_append, List.mem_singleton, Bool.or_eq_true, beq_iff_eq, Option.getD_some]
  constructor
  · rintro (h | h)
    · exact .inl h
    · exact .inr h.symm
  · rintro (h | h)
    · exact .inl h
    · exact .inr h.symm
end Go.Proofs.YtmibnceadciidaaDoor
