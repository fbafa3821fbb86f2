/- Lists alone, ahead of chapter 7: how deep pages lie, and the curve. -/
import Derived.Test.YtkoccdhonbnlhaaDeepL
import Derived.Test.YtkoccdhonbnlhaaAllIn
import Derived.Test.YtkoccdhonbnlhaaOptL
import Derived.Test.YtkoccdhonbnlhaaFlushIn
namespace Go.Proofs.Ytkoccdhonbnlhaa

/-- One pass tells all sizes. -/
theorem deeper_lru (l : List Int) (s : Nat) : missed (hits s l l.length) (hits s l l.length).length = deeper l s l.length := by
  have h : hits s l l.length = marks (hitAt s l) l.length := rfl
  rw [h, missed_marks]
  unfold deeper
  simp only [deep_hit]
theorem deeper_falls (l : List Int) (s n : Nat) : deeper l (s+1) n ≤ deeper l s n := by
  induction n with
  | zero => exact Nat.le_refl _
  | succ n ih =>
    rw [deeper_succ, deeper_succ]
    split <;> split <;> omega
theorem deeper_firsts {l : List Int} {s : Nat} : firsts l l.length ≤ deeper l s l.length := by
  rw [← deeper_lru]
  exact missed_ge fun i _ h => lru_seen h
theorem deeper_all {l : List Int} {s : Nat} (h : firsts l l.length ≤ s) : deeper l s l.length = firsts l l.length := by
  rw [← deeper_lru]
  exact missed_eq fun i hi => lru_room h hi

/-- How many of the first n are unlike their neighbour. -/
def unlike (l : List Int) : Nat → Nat
  | 0 => 0
  | n + 1 => unlike l n + if n = 0 ∨ l[n]?.getD 0 ≠ l[n-1]?.getD 0 then 1 else 0
theorem deep_one {l : List Int} {n : Nat} (hn : n < l.length) : (deep l n = 0 ∨ 1 < deep l n) ↔ (n = 0 ∨ l[n]?.getD 0 ≠ l[n-1]?.getD 0) := by
  have h := deep_hit 1 l n
  have e : (¬ (deep l n = 0 ∨ 1 < deep l n)) ↔ hitAt 1 l n = true := by
    rw [h, Bool.and_eq_true, decide_eq_true_iff, decide_eq_true_iff]; omega
  have e2 : hitAt 1 l n = true ↔ ¬ (n = 0 ∨ l[n]?.getD 0 ≠ l[n-1]?.getD 0) := by
    unfold hitAt
    rw [List.contains_iff_mem]
    cases n with
    | zero => simp [full, mru]
    | succ m =>
      rw [full_succ (by omega)]
      simp
  constructor
  · intro h1
    rcases Classical.em (n = 0 ∨ l[n]?.getD 0 ≠ l[n-1]?.getD 0) with h2 | h2
    · exact h2
    · exact absurd h1 (e.2 (e2.2 h2))
  · intro h1
    rcases Classical.em (deep l n = 0 ∨ 1 < deep l n) with h2 | h2
    · exact h2
    · exact absurd h1 (e2.1 (e.1 h2))
theorem deeper_one (l : List Int) : ∀ n, n ≤ l.length → deeper l 1 n = unlike l n
  | 0, _ => rfl
  | n + 1, hn => by
    rw [deeper_succ, unlike, deeper_one l n (by omega)]
    congr 1
    simp only [deep_one (show n < l.length by omega)]

/-- The best curve lies below. -/
theorem omiss_deeper {s : Nat} {l : List Int} (hs : 1 ≤ s) (hl : inPages l) : omiss s l ≤ deeper l s l.length := by
  rw [← deeper_lru]
  exact omiss_least hs hl (sched_lru hs l) (by rw [hits_lru]; exact missed_hcount _ _)
/-- Who flushes misses no less than the curve tells. -/
theorem deeper_flush {s : Nat} {l : List Int} (hs : 1 ≤ s) : deeper l s l.length ≤ missed (marks (ehit s l) l.length) (marks (ehit s l) l.length).length := by
  rw [← deeper_lru]
  have h : hits s l l.length = marks (hitAt s l) l.length := rfl
  rw [h, missed_marks, missed_marks]
  exact count_le _ fun i hi he => List.contains_iff_mem.2 (since_held hs (by omega) (List.contains_iff_mem.1 he))
theorem omiss_firsts {s : Nat} {l : List Int} (hs : 1 ≤ s) (hl : inPages l) : firsts l l.length ≤ omiss s l :=
  missed_ge fun i hi h => seen_iff.2 (first_miss (sched_opt hs hl) i (by omega) _ (List.contains_iff_mem.1 h))
end Go.Proofs.Ytkoccdhonbnlhaa
